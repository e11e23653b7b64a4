import PyProof.Rows.All
import Wide.All
import OpenK.AllK
import Wide.FinOn
import Open.SpecLaws
import KE.OsHead
import KE.OsGo
import HandS.ForSpec
import HandS.Comp
import HandS.WideBits
import HandS.SortInts
import HandS.Conv
import HandS.Set
import HandS.Strs
import HandS.SetFor
import PySem.Challenge.RW_towersrest_s05_brings
set_option Elab.async false
set_option maxRecDepth 100000
set_option maxHeartbeats 2000000
namespace KzM
open Kzk1 Kzk3
/-! bits -/
theorem bit_test (s i : Nat) : bit s i = s.testBit i := by
  unfold bit
  rw [Nat.testBit_eq_decide_div_mod_eq]
  by_cases h : s / 2 ^ i % 2 = 1
  · rw [h]
    rfl
  · rw [decide_eq_false h]
    exact beq_false_of_ne h
theorem make_succ (n : Nat) (p : Nat → Bool) : make (n + 1) p = make n p + (if p n then 2 ^ n else 0) := by
  unfold make sum
  rw [List.range_succ, List.map_append, List.foldl_append]
  rfl
theorem make_lt (n : Nat) (p : Nat → Bool) : make n p < 2 ^ n := by
  induction n with
  | zero => exact Nat.zero_lt_one
  | succ n ih =>
    rw [make_succ, Nat.pow_succ]
    split <;> omega
theorem make_bit (n : Nat) (p : Nat → Bool) (j : Nat) : (make n p).testBit j = (decide (j < n) && p j) := by
  induction n with
  | zero =>
    show (0 : Nat).testBit j = _
    simp
  | succ n ih =>
    rw [make_succ]
    have hl := make_lt n p
    by_cases hn : p n
    · rw [if_pos hn, Nat.add_comm]
      by_cases hj : j = n
      · subst hj
        rw [Nat.testBit_two_pow_add_eq, Nat.testBit_lt_two_pow hl, hn]
        simp
      · by_cases hlt : j < n
        · rw [Nat.testBit_two_pow_add_gt hlt, ih]
          simp [hlt, Nat.lt_succ_of_lt hlt]
        · have h2 : make n p + 2 ^ n < 2 ^ j := by
            have : 2 ^ (n + 1) ≤ 2 ^ j := Nat.pow_le_pow_right (by decide) (by omega)
            rw [Nat.pow_succ] at this
            omega
          rw [Nat.add_comm, Nat.testBit_lt_two_pow h2]
          have : ¬ j < n + 1 := by omega
          simp [this]
    · rw [if_neg hn, Nat.add_zero, ih]
      by_cases hj : j = n
      · subst hj
        simp [hn]
      · have : (j < n) ↔ (j < n + 1) := by omega
        simp [this]
theorem next_bit (n : Nat) (t : List Nat) (s j : Nat) : (next n t s).testBit j = (decide (j < n) && isUp t j s) := make_bit n _ j
theorem next_lt (n : Nat) (t : List Nat) (s : Nat) : next n t s < 2 ^ n := make_lt n _
theorem eq_of_bits {n a b : Nat} (ha : a < 2 ^ n) (hb : b < 2 ^ n) (h : ∀ j, j < n → a.testBit j = b.testBit j) : a = b := by
  apply Nat.eq_of_testBit_eq
  intro i
  by_cases hi : i < n
  · exact h i hi
  · have : 2 ^ n ≤ 2 ^ i := Nat.pow_le_pow_right (by decide) (by omega)
    rw [Nat.testBit_lt_two_pow (by omega), Nat.testBit_lt_two_pow (by omega)]
theorem ge_of_bit {s j : Nat} (h : s.testBit j = true) : 2 ^ j ≤ s := Nat.ge_two_pow_of_testBit h
theorem add_bit {s j : Nat} (h : s.testBit j = false) (i : Nat) : (s + 2 ^ j).testBit i = (decide (i = j) || s.testBit i) := by
  have e : s = 2 ^ (j + 1) * (s / 2 ^ (j + 1)) + s % 2 ^ (j + 1) := (Nat.div_add_mod s (2 ^ (j + 1))).symm
  have hlt : s % 2 ^ (j + 1) < 2 ^ (j + 1) := Nat.mod_lt _ (Nat.two_pow_pos _)
  have hb : (s % 2 ^ (j + 1)).testBit j = false := by
    rw [Nat.testBit_mod_two_pow, h, Bool.and_false]
  generalize s / 2 ^ (j + 1) = q at e
  generalize s % 2 ^ (j + 1) = r at e hlt hb
  have hr : r < 2 ^ j := by
    rw [Nat.pow_succ] at hlt
    by_cases z : r < 2 ^ j
    · exact z
    · rw [show r = 2 ^ j + (r - 2 ^ j) by omega, Nat.testBit_two_pow_add_eq, Nat.testBit_lt_two_pow (by omega)] at hb
      cases hb
  have hp : 2 ^ (j + 1) = 2 ^ j * 2 := Nat.pow_succ ..
  have e2 : s + 2 ^ j = 2 ^ (j + 1) * q + (2 ^ j + r) := by omega
  rw [e2, e, Nat.testBit_two_pow_mul_add q (by omega), Nat.testBit_two_pow_mul_add q (by omega)]
  by_cases hi : i < j + 1
  · rw [if_pos hi, if_pos hi]
    by_cases hj : i = j
    · subst hj
      rw [Nat.testBit_two_pow_add_eq, hb]
      simp
    · rw [Nat.testBit_two_pow_add_gt (by omega), decide_eq_false hj, Bool.false_or]
  · rw [if_neg hi, if_neg hi, decide_eq_false (by omega), Bool.false_or]
theorem sub_bit {s j : Nat} (h : s.testBit j = true) (i : Nat) : (s - 2 ^ j).testBit i = (!decide (i = j) && s.testBit i) := by
  have hge := ge_of_bit h
  have h3 : (s - 2 ^ j).testBit j = false := by
    have hb := h
    rw [show s = 2 ^ j + (s - 2 ^ j) by omega, Nat.testBit_two_pow_add_eq] at hb
    simpa using hb
  have h4 := add_bit h3 i
  rw [show s - 2 ^ j + 2 ^ j = s by omega] at h4
  rw [h4]
  by_cases e : i = j
  · subst e
    rw [h3]
    simp
  · simp [e]
/-- alone: tower j's flag is as its rule says, the others stay -/
theorem one_bit (t : List Nat) (s j i : Nat) : (one t s j).testBit i = if i = j then isUp t j s else s.testBit i := by
  unfold one
  rw [bit_test]
  cases hu : isUp t j s <;> cases hb : s.testBit j
  · show s.testBit i = _
    by_cases e : i = j
    · subst e
      rw [if_pos rfl, hb]
    · rw [if_neg e]
  · show (s - 2 ^ j).testBit i = _
    rw [sub_bit hb]
    by_cases e : i = j
    · simp [e]
    · simp [e]
  · show (s + 2 ^ j).testBit i = _
    rw [add_bit hb]
    by_cases e : i = j
    · simp [e]
    · simp [e]
  · show s.testBit i = _
    by_cases e : i = j
    · subst e
      rw [if_pos rfl, hb]
    · rw [if_neg e]
theorem lt_of_bits {n a : Nat} (h : ∀ i, n ≤ i → a.testBit i = false) : a < 2 ^ n := Nat.lt_pow_two_of_testBit _ h
theorem bit_high {n a i : Nat} (h : a < 2 ^ n) (hi : n ≤ i) : a.testBit i = false := Nat.testBit_lt_two_pow (Nat.lt_of_lt_of_le h (Nat.pow_le_pow_right (by decide) hi))
theorem one_lt {n : Nat} {t : List Nat} {s j : Nat} (hs : s < 2 ^ n) (hj : j < n) : one t s j < 2 ^ n := by
  apply lt_of_bits
  intro i hi
  rw [one_bit, if_neg (by omega)]
  exact bit_high hs hi
theorem pass_cons (t : List Nat) (j : Nat) (o : List Nat) (s : Nat) : pass t (j :: o) s = pass t o (one t s j) := rfl
theorem pass_snoc (t : List Nat) (j : Nat) (o : List Nat) (s : Nat) : pass t (o ++ [j]) s = one t (pass t o s) j := by
  unfold pass
  rw [List.foldl_append]
  rfl
theorem pass_lt {n : Nat} {t : List Nat} : ∀ {o : List Nat} {s : Nat}, (∀ j ∈ o, j < n) → s < 2 ^ n → pass t o s < 2 ^ n
  | [], s, _, hs => hs
  | j :: o, s, ho, hs => by
    rw [pass_cons]
    exact pass_lt (fun i hi => ho i (List.mem_cons_of_mem _ hi)) (one_lt hs (ho j (List.mem_cons_self ..)))
/-- a tower that doesn't act keeps its flag -/
theorem pass_out {t : List Nat} : ∀ {o : List Nat} {s i : Nat}, i ∉ o → (pass t o s).testBit i = s.testBit i
  | [], _, _, _ => rfl
  | j :: o, s, i, h => by
    rw [pass_cons, pass_out (fun z => h (List.mem_cons_of_mem _ z)), one_bit, if_neg (fun e => h (by rw [e]; exact List.mem_cons_self ..))]
/-- a pass that changes nothing: no tower of the order changed anything -/
theorem pass_fix {t : List Nat} : ∀ {o : List Nat} {s : Nat}, o.Nodup → pass t o s = s → ∀ j ∈ o, isUp t j s = s.testBit j
  | [], _, _, _ => fun j hj => by cases hj
  | j :: o, s, hn, h => by
    rw [List.nodup_cons] at hn
    rw [pass_cons] at h
    have e : one t s j = s := by
      apply Nat.eq_of_testBit_eq
      intro i
      rw [one_bit]
      by_cases z : i = j
      · subst z
        rw [if_pos rfl]
        have h2 := pass_out (t := t) (s := one t s i) hn.1
        rw [h, one_bit, if_pos rfl] at h2
        exact h2.symm
      · rw [if_neg z]
    rw [e] at h
    intro i hi
    rcases List.mem_cons.mp hi with z | z
    · subst z
      have h3 := one_bit t s i i
      rw [e, if_pos rfl] at h3
      exact h3.symm
    · exact pass_fix hn.2 h i z
theorem pass_still {t : List Nat} : ∀ {o : List Nat} {s : Nat}, (∀ j ∈ o, isUp t j s = s.testBit j) → pass t o s = s
  | [], _, _ => rfl
  | j :: o, s, h => by
    have e : one t s j = s := by
      apply Nat.eq_of_testBit_eq
      intro i
      rw [one_bit]
      by_cases z : i = j
      · subst z
        rw [if_pos rfl]
        exact h i (List.mem_cons_self ..)
      · rw [if_neg z]
    rw [pass_cons, e]
    exact pass_still fun i hi => h i (List.mem_cons_of_mem _ hi)
theorem rest_iff {n : Nat} {t : List Nat} {s : Nat} (hs : s < 2 ^ n) : next n t s = s ↔ ∀ j, j < n → isUp t j s = s.testBit j := by
  constructor
  · intro h j hj
    have h2 := next_bit n t s j
    rw [h, decide_eq_true hj, Bool.true_and] at h2
    exact h2.symm
  · intro h
    refine eq_of_bits (next_lt n t s) hs fun j hj => ?_
    rw [next_bit, decide_eq_true hj, Bool.true_and]
    exact h j hj
/-! orders -/
theorem order_mem {n : Nat} {o : List Nat} (h : okOrder n o = true) : o.length = n ∧ ∀ j, j < n → j ∈ o := by
  unfold okOrder at h
  rw [Bool.and_eq_true, beq_iff_eq, List.all_eq_true] at h
  exact ⟨h.1, fun j hj => List.contains_iff_mem.mp (h.2 j (List.mem_range.mpr hj))⟩
theorem perm_sub : ∀ {l o : List Nat}, l.Nodup → (∀ x ∈ l, x ∈ o) → o.length ≤ l.length → l.Perm o
  | [], o, _, _, h => by
    have e : o = [] := List.length_eq_zero_iff.mp (Nat.le_zero.mp h)
    rw [e]
  | x :: l, o, hn, hs, h => by
    rw [List.nodup_cons] at hn
    have hx := hs x (List.mem_cons_self ..)
    have p := List.perm_cons_erase hx
    have hl := p.length_eq
    rw [List.length_cons] at h hl
    have ih := perm_sub (l := l) (o := o.erase x) hn.2 (fun y hy => (List.mem_erase_of_ne (a := y) (b := x) (fun e => hn.1 (by rw [← e]; exact hy))).mpr (hs y (List.mem_cons_of_mem _ hy))) (by omega)
    exact (List.Perm.cons x ih).trans p.symm
theorem perm_of {n : Nat} {o : List Nat} (h : okOrder n o = true) : (List.range n).Perm o := by
  obtain ⟨hl, hm⟩ := order_mem h
  exact perm_sub List.nodup_range (fun j hj => hm j (List.mem_range.mp hj)) (by rw [hl, List.length_range]; exact Nat.le_refl _)
theorem order_nodup {n : Nat} {o : List Nat} (h : okOrder n o = true) : o.Nodup := (perm_of h).nodup_iff.mp List.nodup_range
theorem order_lt {n : Nat} {o : List Nat} (h : okOrder n o = true) : ∀ j ∈ o, j < n := fun j hj => List.mem_range.mp ((perm_of h).mem_iff.mpr hj)
theorem okOrder_iff {n : Nat} {o : List Nat} : okOrder n o = true ↔ (o.length = n ∧ ∀ j, j < n → j ∈ o) := by
  refine ⟨order_mem, fun h => ?_⟩
  unfold okOrder
  rw [Bool.and_eq_true, beq_iff_eq, List.all_eq_true]
  exact ⟨h.1, fun j hj => List.contains_iff_mem.mpr (h.2 j (List.mem_range.mp hj))⟩
/-- the same, said of towers each once -/
theorem okOrder_nodup {n : Nat} {o : List Nat} : okOrder n o = true ↔ (o.length = n ∧ o.Nodup ∧ ∀ j ∈ o, j < n) := by
  refine ⟨fun h => ⟨(order_mem h).1, order_nodup h, order_lt h⟩, fun h => okOrder_iff.mpr ⟨h.1, fun j hj => ?_⟩⟩
  have p := perm_sub h.2.1 (fun x hx => List.mem_range.mpr (h.2.2 x hx)) (by rw [h.1, List.length_range]; exact Nat.le_refl _)
  exact p.mem_iff.mpr (List.mem_range.mpr hj)
/-- in any order a pass changes nothing just if it's at rest -/
theorem pass_rest {n : Nat} {t o : List Nat} {s : Nat} (h : okOrder n o = true) (hs : s < 2 ^ n) : pass t o s = s ↔ next n t s = s := by
  rw [rest_iff hs]
  refine ⟨fun e j hj => pass_fix (order_nodup h) e j ((order_mem h).2 j hj), fun e => pass_still fun j hj => e j (order_lt h j hj)⟩
/-! passes -/
theorem passes_succ (t o : List Nat) (k s : Nat) : passes t o (k + 1) s = pass t o (passes t o k s) := by
  unfold passes
  rw [List.range_succ, List.foldl_append]
  rfl
theorem passes_add (t o : List Nat) (k : Nat) : ∀ (m s : Nat), passes t o (k + m) s = passes t o m (passes t o k s)
  | 0, s => rfl
  | m + 1, s => by rw [show k + (m + 1) = (k + m) + 1 from rfl, passes_succ, passes_succ, passes_add t o k m s]
theorem passes_lt {n : Nat} {t o : List Nat} {s : Nat} (ho : ∀ j ∈ o, j < n) (hs : s < 2 ^ n) : ∀ k, passes t o k s < 2 ^ n
  | 0 => hs
  | k + 1 => by
    rw [passes_succ]
    exact pass_lt ho (passes_lt ho hs k)
/-- rest comes behind fewer passes than there are states, or never -/
theorem rest_soon {n : Nat} {t o : List Nat} {s : Nat} (ho : ∀ j ∈ o, j < n) (hs : s < 2 ^ n) {p : Nat → Prop} {m : Nat} (hm : p (passes t o m s)) (hf : ∀ k, k < m → ¬ p (passes t o k s)) : m < 2 ^ n := by
  have nd : ((List.range (m + 1)).map fun k => passes t o k s).Nodup := by
    rw [List.nodup_iff_pairwise_ne, List.pairwise_map]
    have hp : List.Pairwise (fun a b : Nat => a < b) (List.range (m + 1)) := List.pairwise_lt_range
    have hq : List.Pairwise (fun a b : Nat => a < b ∧ b ≤ m) (List.range (m + 1)) := by
      refine List.Pairwise.imp_of_mem (fun {a b} ha hb hab => ⟨hab, ?_⟩) hp
      have := List.mem_range.mp hb
      omega
    refine hq.imp fun {a b} hab e => ?_
    have e2 : passes t o (a + (m - b)) s = passes t o (b + (m - b)) s := by rw [passes_add, passes_add, e]
    rw [show b + (m - b) = m by omega] at e2
    exact hf (a + (m - b)) (by omega) (by rw [e2]; exact hm)
  have hsub : ∀ x ∈ (List.range (m + 1)).map fun k => passes t o k s, x ∈ List.range (2 ^ n) := fun x hx => by
    obtain ⟨k, _, rfl⟩ := List.mem_map.mp hx
    exact List.mem_range.mpr (passes_lt ho hs k)
  by_cases z : m < 2 ^ n
  · exact z
  · have p2 := perm_sub nd hsub (by rw [List.length_map, List.length_range, List.length_range]; omega)
    have := p2.length_eq
    rw [List.length_map, List.length_range, List.length_range] at this
    omega
/-- so it is enough to look at so many passes as there are states -/
theorem sweeps_eq {n : Nat} {t o : List Nat} {s : Nat} (ho : ∀ j ∈ o, j < n) (hs : s < 2 ^ n) : sweeps n t o s = (List.range (2 ^ n)).find? fun k => next n t (passes t o k s) == passes t o k s := by
  unfold sweeps
  rw [List.range_succ, List.find?_append]
  cases e : (List.range (2 ^ n)).find? fun k => next n t (passes t o k s) == passes t o k s with
  | some k => rfl
  | none =>
    rw [List.find?_eq_none] at e
    rw [Option.none_or, List.find?_cons]
    cases z : (next n t (passes t o (2 ^ n) s) == passes t o (2 ^ n) s) with
    | false => rfl
    | true =>
      have := rest_soon (p := fun x => (next n t x == x) = true) ho hs z (fun k hk => e k (List.mem_range.mpr hk))
      omega
/-! orders, tower by tower -/
/-- a beginning, one tower further: by the towers below j -/
def ext (p : List Nat) (j : Nat) : List (List Nat) := ((List.range j).filter fun i => !p.contains i).map fun i => p ++ [i]
/-- all beginnings of so many towers, in order -/
def lev (n : Nat) : Nat → List (List Nat)
  | 0 => [[]]
  | i + 1 => (lev n i).flatMap fun p => ext p n
theorem ext_no {p : List Nat} {j : Nat} (h : p.contains j = false) : ext p (j + 1) = ext p j ++ [p ++ [j]] := by
  unfold ext
  rw [List.range_succ, List.filter_append, List.map_append, List.filter_cons, h]
  rfl
theorem ext_yes {p : List Nat} {j : Nat} (h : p.contains j = true) : ext p (j + 1) = ext p j := by
  unfold ext
  rw [List.range_succ, List.filter_append, List.map_append, List.filter_cons, h]
  exact List.append_nil _
theorem ext_len (p : List Nat) (j : Nat) : (ext p j).length ≤ j := by
  unfold ext
  rw [List.length_map]
  exact Nat.le_trans (List.length_filter_le _ _) (Nat.le_of_eq List.length_range)
theorem flat_len {α β : Type} {f : α → List β} {n : Nat} (h : ∀ x, (f x).length ≤ n) : ∀ l : List α, (l.flatMap f).length ≤ l.length * n
  | [] => Nat.zero_le _
  | x :: l => by
    rw [List.flatMap_cons, List.length_append, List.length_cons, Nat.succ_mul]
    have := flat_len h l
    have := h x
    omega
theorem lev_len (n : Nat) : ∀ i, (lev n i).length ≤ n ^ i
  | 0 => Nat.le_refl 1
  | i + 1 => Nat.le_trans (flat_len (fun p => ext_len p n) (lev n i)) (by
    rw [Nat.pow_succ]
    exact Nat.mul_le_mul_right n (lev_len n i))
theorem lev_few {n i : Nat} (hn : n ≤ 4) (hi : i < n) : (lev n i).length ≤ 64 := by
  refine Nat.le_trans (lev_len n i) (Nat.le_trans (Nat.pow_le_pow_left hn i) ?_)
  exact Nat.pow_le_pow_right (n := 4) (j := 3) (by decide) (by omega)
theorem lev_lt {n : Nat} : ∀ {i : Nat} {o : List Nat}, o ∈ lev n i → ∀ j ∈ o, j < n
  | 0, o, h => fun j hj => by
    have e : o = [] := List.mem_singleton.mp h
    rw [e] at hj
    cases hj
  | i + 1, o, h => fun j hj => by
    obtain ⟨p, hp, hq⟩ := List.mem_flatMap.mp h
    obtain ⟨k, hk, e⟩ := List.mem_map.mp hq
    rw [← e] at hj
    rcases List.mem_append.mp hj with z | z
    · exact lev_lt hp j z
    · rw [List.mem_singleton.mp z]
      exact List.mem_range.mp (List.mem_filter.mp hk).1
theorem lev_w {n : Nat} : ∀ {i : Nat} {o : List Nat}, o ∈ lev n i → o.length = i
  | 0, o, h => by
    have e : o = [] := List.mem_singleton.mp h
    rw [e]
    rfl
  | i + 1, o, h => by
    obtain ⟨p, hp, hq⟩ := List.mem_flatMap.mp h
    obtain ⟨k, _, e⟩ := List.mem_map.mp hq
    rw [← e, List.length_append, lev_w hp]
    rfl
theorem on_succ (n f : Nat) (p : List Nat) : ordersOn n (f + 1) p = (ext p n).flatMap (ordersOn n f) := by
  unfold ext
  rw [List.flatMap_map]
  rfl
theorem lev_on (n : Nat) : ∀ {i : Nat}, i ≤ n → (lev n i).flatMap (ordersOn n (n - i)) = orders n
  | 0, _ => List.append_nil _
  | i + 1, h => by
    have e : n - i = (n - (i + 1)) + 1 := by omega
    have ih := lev_on n (Nat.le_of_succ_le h)
    rw [e] at ih
    rw [← ih]
    show ((lev n i).flatMap fun p => ext p n).flatMap (ordersOn n (n - (i + 1))) = _
    rw [List.flatMap_assoc]
    exact congrArg (fun f => (lev n i).flatMap f) (funext fun p => (on_succ n _ p).symm)
/-- all orders -/
theorem lev_all (n : Nat) : lev n n = orders n := by
  have h := lev_on n (Nat.le_refl n)
  rw [Nat.sub_self] at h
  rw [← h]
  show _ = (lev n n).flatMap fun p => [p]
  exact (List.flatMap_singleton' _).symm
theorem orders_lt {n : Nat} {o : List Nat} (h : o ∈ orders n) : ∀ j ∈ o, j < n := by
  rw [← lev_all] at h
  exact lev_lt h
theorem orders_few {n : Nat} (hn : n ≤ 4) : (orders n).length ≤ 256 := by
  rw [← lev_all]
  refine Nat.le_trans (lev_len n n) (Nat.le_trans (Nat.pow_le_pow_left hn n) ?_)
  exact Nat.pow_le_pow_right (n := 4) (j := 4) (by decide) hn
theorem orders_w {n : Nat} {o : List Nat} (h : o ∈ orders n) : o.length = n := by
  rw [← lev_all] at h
  exact lev_w h
theorem orders_24 {n : Nat} (hn : n ≤ 4) : (orders n).length ≤ 24 := by
  match n, hn with
  | 0, _ => decide
  | 1, _ => decide
  | 2, _ => decide
  | 3, _ => decide
  | 4, _ => decide
theorem atOnce_true {n : Nat} {t o : List Nat} (h : ∀ s, s < 2 ^ n → next n t (pass t o s) = pass t o s) : atOnce n t o = true := by
  unfold atOnce states
  rw [List.all_eq_true]
  intro s hs
  exact beq_iff_eq.mpr (h s (List.mem_range.mp hs))
theorem atOnce_false {n : Nat} {t o : List Nat} {s : Nat} (hs : s < 2 ^ n) (h : ¬ next n t (pass t o s) = pass t o s) : atOnce n t o = false := by
  unfold atOnce states
  rw [List.all_eq_false]
  exact ⟨s, List.mem_range.mpr hs, fun e => h (beq_iff_eq.mp e)⟩
/-! rising lists -/
theorem rise_eq {a b : List Int} (ha : a.Pairwise (· < ·)) (hb : b.Pairwise (· < ·)) (h : ∀ k, k ∈ a ↔ k ∈ b) : a = b := by
  have na : a.Nodup := ha.imp fun {x y} z => Int.ne_of_lt z
  have nb : b.Nodup := hb.imp fun {x y} z => Int.ne_of_lt z
  have p : a.Perm b := (List.perm_ext_iff_of_nodup na nb).mpr h
  exact List.Perm.eq_of_pairwise (le := (· < ·)) (fun x y _ _ u v => absurd u (Int.not_lt.mpr (Int.le_of_lt v))) ha hb p
theorem brings_rise (n : Nat) (t : List Nat) (s : Nat) : ((brings n t s).map fun (x : Nat) => (x : Int)).Pairwise (· < ·) := by
  rw [List.pairwise_map]
  unfold brings states
  exact (List.pairwise_lt_range.filter _).imp fun {a b} e => Int.ofNat_lt.mpr e
theorem brings_mem {n : Nat} {t : List Nat} {s : Nat} (hs : s < 2 ^ n) (k : Int) : k ∈ (brings n t s).map (fun (x : Nat) => (x : Int)) ↔ k ∈ ((orders n).map fun o => pass t o s).map (fun (x : Nat) => (x : Int)) := by
  have e : ∀ x, x ∈ brings n t s ↔ x ∈ (orders n).map fun o => pass t o s := fun x => by
    unfold brings states
    rw [List.mem_filter, List.contains_iff_mem, List.mem_range]
    refine ⟨fun h => h.2, fun h => ⟨?_, h⟩⟩
    obtain ⟨o, ho, e⟩ := List.mem_map.mp h
    rw [← e]
    exact pass_lt (orders_lt ho) hs
  rw [List.mem_map, List.mem_map]
  exact ⟨fun ⟨x, h, z⟩ => ⟨x, (e x).mp h, z⟩, fun ⟨x, h, z⟩ => ⟨x, (e x).mpr h, z⟩⟩
end KzM
namespace Kz
open PySem PySem.Spec PyProof.Rows L2
open PySem.W (Codec)
/-! ### numbers and lists -/
def nv (t : List Nat) : List V := t.map fun (x : Nat) => V.int (x : Int)
theorem nv_len (t : List Nat) : (nv t).length = t.length := by
  unfold nv
  rw [List.length_map]
theorem nv_at {t : List Nat} {i r : Nat} (h : t[i]? = some r) : (nv t)[i]? = some (V.int (r : Int)) := by
  unfold nv
  rw [List.getElem?_map, h]
  rfl
theorem nv_get {t : List Nat} {i : Nat} {x : V} (h : (nv t)[i]? = some x) : ∃ r : Nat, t[i]? = some r ∧ x = V.int (r : Int) := by
  unfold nv at h
  rw [List.getElem?_map] at h
  cases e : t[i]? with
  | none =>
    rw [e] at h
    cases h
  | some r =>
    rw [e] at h
    exact ⟨r, rfl, (Option.some.inj h).symm⟩
theorem nv_snoc (t : List Nat) (x : Nat) : nv (t ++ [x]) = nv t ++ [V.int (x : Int)] := by
  unfold nv
  rw [List.map_append]
  rfl
theorem nv_of : ∀ ns : List Int, (∀ x ∈ ns, 0 ≤ x) → ns.map V.int = nv (ns.map Int.toNat)
  | [], _ => rfl
  | x :: r, h => by
    have h1 := h x (List.mem_cons_self ..)
    have ih := nv_of r fun y hy => h y (List.mem_cons_of_mem _ hy)
    show V.int x :: r.map V.int = V.int ((x.toNat : Nat) : Int) :: nv (r.map Int.toNat)
    rw [ih, Int.toNat_of_nonneg h1]
def zs (t : List Nat) : List Int := t.map fun (x : Nat) => (x : Int)
theorem nv_zs (t : List Nat) : nv t = (zs t).map V.int := by
  unfold nv zs
  rw [List.map_map]
  rfl
theorem zs_nat (t : List Nat) : (zs t).map Int.toNat = t := by
  unfold zs
  rw [List.map_map]
  exact List.map_id'' (fun x => Int.toNat_natCast x) t
theorem zs_le : ∀ {t : List Nat}, t.Pairwise (· ≤ ·) → (zs t).Pairwise (· ≤ ·) := fun {t} h => by
  unfold zs
  rw [List.pairwise_map]
  exact h.imp fun {a b} e => Int.ofNat_le.mpr e
theorem take_snoc {α : Type} : ∀ {l : List α} {i : Nat} {x : α}, l[i]? = some x → l.take (i + 1) = l.take i ++ [x]
  | [], i, x, h => by simp at h
  | a :: l, 0, x, h => by
    have e : a = x := Option.some.inj h
    subst e
    rfl
  | a :: l, i + 1, x, h => by
    have ih := take_snoc (l := l) (i := i) (x := x) h
    show a :: l.take (i + 1) = a :: l.take i ++ [x]
    rw [ih]
    rfl
theorem next_succ (i : Nat) (t : List Nat) (s : Nat) : Kzk1.next (i + 1) t s = Kzk1.next i t s + (if Kzk1.isUp t i s then 2 ^ i else 0) := by
  unfold Kzk1.next Kzk1.make Kzk1.sum
  rw [List.range_succ, List.map_append, List.foldl_append]
  rfl
theorem flag_is {t : List Nat} {i r s : Nat} (h : t[i]? = some r) : (r / 2 ^ s % 2) * 2 ^ i = if Kzk1.isUp t i s then 2 ^ i else 0 := by
  unfold Kzk1.isUp Kzk1.bit
  rw [List.getD_eq_getElem?_getD, h]
  show (r / 2 ^ s % 2) * 2 ^ i = if (r / 2 ^ s % 2 == 1) = true then 2 ^ i else 0
  rcases Nat.mod_two_eq_zero_or_one (r / 2 ^ s) with e | e
  · rw [e]
    simp
  · rw [e]
    simp
theorem alone_is {t : List Nat} {j r s : Nat} (h : t[j]? = some r) : (s : Int) + (((r / 2 ^ s % 2 : Nat) : Int) - ((s / 2 ^ j % 2 : Nat) : Int)) * ((2 ^ j : Nat) : Int) = ((Kzk3.one t s j : Nat) : Int) := by
  have hu : Kzk1.isUp t j s = (r / 2 ^ s % 2 == 1) := by
    unfold Kzk1.isUp Kzk1.bit
    rw [List.getD_eq_getElem?_getD, h]
    rfl
  unfold Kzk3.one
  rw [hu]
  unfold Kzk1.bit
  have hge : s / 2 ^ j % 2 = 1 → 2 ^ j ≤ s := fun e => by
    by_cases z : s < 2 ^ j
    · rw [Nat.div_eq_of_lt z] at e
      cases e
    · omega
  rcases Nat.mod_two_eq_zero_or_one (r / 2 ^ s) with e | e <;> rcases Nat.mod_two_eq_zero_or_one (s / 2 ^ j) with e2 | e2
  · rw [e, e2]
    simp
  · have := hge e2
    rw [e, e2]
    show (s : Int) + (0 - 1) * ((2 ^ j : Nat) : Int) = ((s - 2 ^ j : Nat) : Int)
    generalize 2 ^ j = p at *
    omega
  · rw [e, e2]
    show (s : Int) + (1 - 0) * ((2 ^ j : Nat) : Int) = ((s + 2 ^ j : Nat) : Int)
    generalize 2 ^ j = p at *
    omega
  · rw [e, e2]
    simp
theorem okT_iff {n : Nat} {t : List Nat} : Kzk1.okTowers n t = true ↔ (1 ≤ n ∧ n ≤ 4 ∧ t.length = n ∧ ∀ r ∈ t, r < 2 ^ 2 ^ n) := by
  unfold Kzk1.okTowers
  simp only [Bool.and_eq_true, decide_eq_true_eq, beq_iff_eq, List.all_eq_true, and_assoc]
theorem okT_false {n : Nat} {t : List Nat} (h : ¬ (1 ≤ n ∧ n ≤ 4 ∧ t.length = n ∧ ∀ r ∈ t, r < 2 ^ 2 ^ n)) : Kzk1.okTowers n t = false := by
  cases e : Kzk1.okTowers n t with
  | false => rfl
  | true => exact absurd (okT_iff.mp e) h
theorem pow_le {n : Nat} (h : n ≤ 4) : 2 ^ n ≤ 16 := Nat.pow_le_pow_right (by decide) h
/-! ### lists of numbers as data -/
theorem lay_ints : ∀ xs : List Int, PyData.canLayAll0 (xs.map PyData.int) = true
  | [] => by simp [PyData.canLayAll0]
  | x :: xs => by
    rw [List.map_cons, PyData.canLayAll0, lay_ints xs]
    simp [PyData.canLay0]
theorem depth_ints : ∀ xs : List Int, PyData.depthAll (xs.map PyData.int) ≤ 1
  | [] => by simp [PyData.depthAll]
  | x :: xs => by
    rw [List.map_cons, PyData.depthAll]
    have := depth_ints xs
    refine Nat.max_le.mpr ⟨?_, this⟩
    simp [PyData.depth]
theorem shaped_ints (xs : List Int) : PySem.SeqAt.shaped (.list (xs.map PyData.int)) = true := by
  unfold PySem.SeqAt.shaped
  rw [Bool.and_eq_true]
  refine ⟨?_, decide_eq_true ?_⟩
  · rw [PyData.canLay0]
    exact lay_ints xs
  · rw [PyData.depth]
    have := depth_ints xs
    omega
theorem eqv_ints : ∀ xs ys : List Int, PyData.eqvAll (xs.map PyData.int) (ys.map PyData.int) = decide (xs = ys)
  | [], [] => by simp [PyData.eqvAll]
  | [], _ :: _ => by simp [PyData.eqvAll]
  | _ :: _, [] => by simp [PyData.eqvAll]
  | x :: xs, y :: ys => by
    rw [List.map_cons, List.map_cons, PyData.eqvAll, eqv_ints xs ys]
    by_cases a : x = y <;> by_cases b : xs = ys <;> simp [PyData.eqv, a, b]
theorem dp_ints {K : PySem.W.Frag} {H : Hp} : ∀ xs : List Int, DpAll K H (xs.map V.int) (xs.map PyData.int)
  | [] => .nil
  | x :: xs => .cons (.int x) (dp_ints xs)
theorem rg_zs (n : Nat) : rgV 0 (n : Int) = (zs (List.range n)).map V.int := by
  unfold rgV zs
  rw [List.map_map, Int.sub_zero, Int.toNat_natCast]
  exact List.map_congr_left fun i _ => congrArg V.int (Int.zero_add _)
theorem order_is {n : Nat} {o : List Nat} {ns : List Int} (p : ns.Perm (zs o)) (s : ns.Pairwise (· ≤ ·)) : decide (ns = zs (List.range n)) = Kzk3.okOrder n o := by
  cases h : Kzk3.okOrder n o with
  | true =>
    refine decide_eq_true ?_
    have p2 : (zs (List.range n)).Perm (zs o) := (KzM.perm_of h).map _
    refine List.Perm.eq_of_pairwise (le := (· ≤ ·)) (fun a b _ _ x y => Int.le_antisymm x y) s (zs_le (List.pairwise_lt_range.imp fun {a b} e => Nat.le_of_lt e)) (p.trans p2.symm)
  | false =>
    refine decide_eq_false fun e => ?_
    rw [e] at p
    have p2 := p.map Int.toNat
    rw [zs_nat, zs_nat] at p2
    have : Kzk3.okOrder n o = true := KzM.okOrder_iff.mpr ⟨by rw [← p2.length_eq, List.length_range], fun j hj => p2.mem_iff.mp (List.mem_range.mpr hj)⟩
    rw [h] at this
    cases this
theorem same_upd {H : Hp} {p : Addr} {o : HO} (h : H p = none) : Same H (upd H p o) := fun b x e => by
  rw [upd_ne (ne_of_none e h)]
  exact e
theorem same_upd2 {H H' : Hp} {p : Addr} {o : HO} (h : H p = none) (s : Same H H') : Same H (upd H' p o) := fun b x e => by
  rw [upd_ne (ne_of_none e h)]
  exact s b x e
/-! ### the text -/
def top (i : Nat) : Stmt := PySem.Challenge.pw_towersrest_s05_brings.main.body.getD i (.Pass ⟨0, 0, 0, 0⟩)
abbrev sPow : Stmt := top 3
abbrev sTow : Stmt := top 4
abbrev sState : Stmt := top 5
abbrev sBegin : Stmt := top 6
abbrev sNow : Stmt := top 7
abbrev sFlag : Stmt := top 8
abbrev sAlone : Stmt := top 9
abbrev sPass : Stmt := top 10
abbrev sOrders : Stmt := top 11
abbrev sBrings : Stmt := top 12
theorem scPow : FnScope ["exponent", "power", "step"] ["exponent"] (defScope sPow) := ⟨rfl, rfl, rfl, by decide +kernel, rfl, by decide +kernel, by decide +kernel⟩
theorem scTow : FnScope ["n", "t", "limit", "rule"] ["n", "t"] (defScope sTow) := ⟨rfl, rfl, rfl, by decide +kernel, rfl, by decide +kernel, by decide +kernel⟩
theorem scState : FnScope ["n", "s"] ["n", "s"] (defScope sState) := ⟨rfl, rfl, rfl, by decide +kernel, rfl, by decide +kernel, by decide +kernel⟩
theorem scBegin : FnScope ["n", "s", "t"] ["n", "s", "t"] (defScope sBegin) := ⟨rfl, rfl, rfl, by decide +kernel, rfl, by decide +kernel, by decide +kernel⟩
theorem scNow : FnScope ["state", "tower"] ["state", "tower"] (defScope sNow) := ⟨rfl, rfl, rfl, by decide +kernel, rfl, by decide +kernel, by decide +kernel⟩
theorem scFlag : FnScope ["rule", "state"] ["rule", "state"] (defScope sFlag) := ⟨rfl, rfl, rfl, by decide +kernel, rfl, by decide +kernel, by decide +kernel⟩
theorem scAlone : FnScope ["t", "tower", "state", "change"] ["t", "tower", "state"] (defScope sAlone) := ⟨rfl, rfl, rfl, by decide +kernel, rfl, by decide +kernel, by decide +kernel⟩
theorem scPass : FnScope ["t", "order", "state", "reached", "tower"] ["t", "order", "state"] (defScope sPass) := ⟨rfl, rfl, rfl, by decide +kernel, rfl, by decide +kernel, by decide +kernel⟩
theorem scOrders : FnScope ["n", "orders", "turn", "longer", "order", "tower"] ["n"] (defScope sOrders) := ⟨rfl, rfl, rfl, by decide +kernel, rfl, by decide +kernel, by decide +kernel⟩
theorem scBrings : FnScope ["n", "s", "t", "brought", "order"] ["n", "s", "t"] (defScope sBrings) := ⟨rfl, rfl, rfl, by decide +kernel, rfl, by decide +kernel, by decide +kernel⟩
/-- a def: its place, its names, its promise -/
structure Ok (P : Program) (w : World) (K : PySem.W.Frag) (mg : Str → Option Value) (base : Heap) (lv : Nat) (nm : Str) (st : Stmt) (ps : List Str) (f : Addr) (fd : FuncData) (sp : Sp) : Prop where
  F : Fun K nm nm st f fd
  b : Binds K fd ps []
  g : mg nm = some (.ref f)
  G : FnOk P w K mg base CX0 lv f fd ps sp
/-! ### the promises -/
def spPow (_ : PySem.W.Frag) : Sp := fun vs H Q _ => ∃ e : Nat, vs = [.int (e : Int)] ∧ e ≤ 1000 ∧ Q (.int ((2 ^ e : Nat) : Int)) H
def spTow (K : PySem.W.Frag) : Sp := fun vs H Q _ => ∃ (a : Addr) (n : Nat) (t : List Nat), vs = [.int (n : Int), .ref a] ∧ SqL K H a (nv t) ∧ Q (.bl (Kzk1.okTowers n t)) H
def spState (_ : PySem.W.Frag) : Sp := fun vs H Q _ => ∃ n s : Nat, vs = [.int (n : Int), .int (s : Int)] ∧ n ≤ 1000 ∧ Q (.bl (decide (s < 2 ^ n))) H
def spBegin (K : PySem.W.Frag) : Sp := fun vs H Q _ => ∃ (a : Addr) (n s : Nat) (t : List Nat), vs = [.int (n : Int), .int (s : Int), .ref a] ∧ SqL K H a (nv t) ∧ Q (.bl (Kzk1.good n s t)) H
def spNow (_ : PySem.W.Frag) : Sp := fun vs H Q _ => ∃ s j : Nat, vs = [.int (s : Int), .int (j : Int)] ∧ Q (.int ((s / 2 ^ j % 2 : Nat) : Int)) H
def spFlag (_ : PySem.W.Frag) : Sp := fun vs H Q _ => ∃ r s : Nat, vs = [.int (r : Int), .int (s : Int)] ∧ Q (.int ((r / 2 ^ s % 2 : Nat) : Int)) H
def spAlone (K : PySem.W.Frag) : Sp := fun vs H Q _ => ∃ (a : Addr) (j s : Nat) (t : List Nat), vs = [.ref a, .int (j : Int), .int (s : Int)] ∧ SqL K H a (nv t) ∧ j < t.length ∧ j ≤ 1000 ∧ Q (.int ((Kzk3.one t s j : Nat) : Int)) H
def spPass (K : PySem.W.Frag) : Sp := fun vs H Q _ => ∃ (a b : Addr) (s : Nat) (t o : List Nat), vs = [.ref a, .ref b, .int (s : Int)] ∧ SqL K H a (nv t) ∧ SqL K H b (nv o) ∧ (∀ j ∈ o, j < t.length) ∧ t.length ≤ 1000 ∧ Q (.int ((Kzk3.pass t o s : Nat) : Int)) H
/-- lists of numbers, in a list -/
def Rows (H : Hp) (q : Addr) (ps : List (Addr × List Nat)) : Prop := H q = some (.lst (ps.map fun x => V.ref x.1)) ∧ ∀ x ∈ ps, x.1 ≠ q ∧ H x.1 = some (.lst (nv x.2))
def spOrders (_ : PySem.W.Frag) : Sp := fun vs H Q _ => ∃ n : Nat, vs = [.int (n : Int)] ∧ n ≤ 4 ∧ ∀ (H' : Hp) (q : Addr) (ps : List (Addr × List Nat)), Same H H' → Rows H' q ps → ps.map (·.2) = Kzk3.orders n → Q (.ref q) H'
/-- what is told of brings -/
def brought (n s : Nat) (t : List Nat) : List Int := if Kzk1.good n s t = false then [-22] else ((Kzk3.brings n t s).length : Int) :: zs (Kzk3.brings n t s)
def spBrings (K : PySem.W.Frag) : Sp := fun vs H Q _ => ∃ (a : Addr) (n s : Nat) (t : List Nat), vs = [.int (n : Int), .int (s : Int), .ref a] ∧ SqL K H a (nv t) ∧
  ∀ (H' : Hp) (p : Addr), H' p = some (.lst ((brought n s t).map V.int)) → Q (.ref p) H'
section
variable {P : Program} {w : World} {K : PySem.W.Frag} {mg : Str → Option Value} {base : Heap}
/-! ### the defs -/
theorem ok_Pow {f : Addr} {fd : FuncData} (F : Fun K "power_of_two" "power_of_two" sPow f fd) (m_range : mg "range" = none) : FnOk P w K mg base CX0 1 f fd ["exponent"] (spPow K) := by
  refine F.ok scPow (fun vs H Q E h => ?_) (fun cdv A outer s H vs Q E hr h => ?_)
  · obtain ⟨e, rfl, _⟩ := h
    rfl
  · obtain ⟨e, rfl, he, q⟩ := h
    refine ⟨_, pss_cons (ps_set (i := 1) scPow.nd rfl (.inl rfl) pe_int)
      (pss_cons (ps_for PassesOwn.never rfl (pi_range1 (by rfl) m_range (pa_cons (pv 0) pa_nil)) (pg_name (i := 2) scPow.nd rfl (.inl rfl))
        (pss_one (ps_set (i := 1) scPow.nd rfl (.inl rfl) (pe_op op_mul (pv 1) pe_int))))
      (pss_one (ps_ret (pv 1)))), ?_⟩
    refine ⟨_, rfl, (e : Int), rfl, by omega, by omega, for_range (lo := 0) (n := (e : Int).toNat) (fun i σ H' => ∃ v : Option V, σ = [some (.int (e : Int)), some (.int ((2 ^ i : Nat) : Int)), v] ∧ H = H') ⟨none, rfl, rfl⟩ ?_ ?_⟩
    · rintro i σ H' hi ⟨v, rfl, rfl⟩
      refine ⟨_, rfl, _, _, rfl, rfl, .inr ⟨by decide, by decide⟩, some (.int (0 + (i : Int))), ?_, rfl⟩
      rw [Nat.pow_succ, Int.natCast_mul]
      rfl
    · rintro σ H' ⟨v, rfl, rfl⟩
      rw [Int.toNat_natCast]
      exact ⟨_, rfl, q⟩
theorem ok_Tow {f : Addr} {fd : FuncData} (F : Fun K "are_towers" "are_towers" sTow f fd) {fPow : Addr} {fdPow : FuncData} (OPow : Ok P w K mg base 1 "power_of_two" sPow ["exponent"] fPow fdPow (spPow K)) (m_len : mg "len" = none) {tgMOST_TOWERS : Nat} (gMOST_TOWERS : mg "MOST_TOWERS" = some (.int 4 tgMOST_TOWERS)) : FnOk P w K mg base CX0 2 f fd ["n", "t"] (spTow K) := by
  refine F.ok scTow (fun vs H Q E h => ?_) (fun cdv A outer s H vs Q E hr h => ?_)
  · obtain ⟨a, n, t, rfl, _⟩ := h
    rfl
  · obtain ⟨a, n, t, rfl, hS, q⟩ := h
    refine ⟨_, pss_cons (ps_if (PW.pt (pw_or (pt_cmpR op_lt (pv 0) pe_int (nomark _)) (pw_or1 (pt_cmpR op_gt (pv 0) (pe_glob (v := V.int 4) rfl gMOST_TOWERS ⟨_, rfl⟩) (nomark _))))) (pss_one (ps_ret pe_bl)) pss_nil)
      (pss_cons (ps_if (pt_cmpR op_ne (pe_callB call_len_seq (by rfl) m_len PySem.boot_len (pa_cons (pv 1) pa_nil)) (pv 0) (nomark _)) (pss_one (ps_ret pe_bl)) pss_nil)
      (pss_cons (ps_set (i := 2) scTow.nd rfl (.inl rfl) (pe_call OPow.G (hr.mono (by decide)) rfl OPow.g OPow.F.kp OPow.b .nil pass0 (pa_cons ((pe_call OPow.G (hr.mono (by decide)) rfl OPow.g OPow.F.kp OPow.b .nil pass0 (pa_cons (pv 0) pa_nil))) pa_nil)))
      (pss_cons (ps_for PassesOwn.never rfl (pi_list (pv 1)) (pg_name (i := 3) scTow.nd rfl (.inl rfl))
        (pss_one (ps_if (PW.pt (pw_or (pt_cmpR op_lt (pv 3) pe_int (nomark _)) (pw_or1 (pt_cmpR op_ge (pv 3) (pv 2) (nomark _))))) (pss_one (ps_ret pe_bl)) pss_nil)))
      (pss_one (ps_ret pe_bl))))), ?_⟩
    have no : ∀ {H' : Hp}, H = H' → ¬ (1 ≤ n ∧ n ≤ 4 ∧ t.length = n ∧ ∀ r ∈ t, r < 2 ^ 2 ^ n) → Q (.bl false) H' := fun e z => by
      rw [okT_false z] at q
      rw [← e]
      exact q
    refine ⟨_, rfl, _, _, rfl, rfl, _, rfl, ite2 (fun e => iteT ?_) (fun e1 => ⟨_, rfl, _, _, rfl, rfl, _, rfl, ite2 (fun e => ?_) (fun e2 => ?_)⟩)⟩
    · have h := of_decide_eq_true e
      exact no rfl (by omega)
    · have h := of_decide_eq_true e
      exact no rfl (by omega)
    · have h1 : ¬ (n : Int) < 1 := fun z => e1 (decide_eq_true z)
      have h2 : ¬ (4 : Int) < (n : Int) := fun z => e2 (decide_eq_true z)
      refine ⟨.ref a, rfl, a, nv t, rfl, .inl hS, _, rfl, rfl, _, rfl, ite2 (fun e => ?_) (fun e3 => ?_)⟩
      · refine no rfl fun z => ?_
        rw [Bool.not_eq_true'] at e
        have h := of_decide_eq_false e
        rw [nv_len, z.2.2.1] at h
        exact h rfl
      · have h3 : t.length = n := by
          by_cases z : t.length = n
          · exact z
          · refine absurd ?_ e3
            rw [Bool.not_eq_true']
            refine decide_eq_false fun u => z ?_
            have u2 := V.int.inj u
            rw [nv_len] at u2
            omega
        have h4 : n ≤ 4 := by omega
        have h5 : 2 ^ n ≤ 16 := pow_le h4
        refine ⟨_, rfl, n, rfl, by omega, 2 ^ n, rfl, by omega, ?_⟩
        refine ⟨_, rfl, a, rfl, ⟨_, hS⟩, for_list (K := K) (a := a) (xs := nv t) (fun i σ H' => ∃ v : Option V, σ = [some (.int (n : Int)), some (.ref a), some (.int ((2 ^ 2 ^ n : Nat) : Int)), v] ∧ H = H' ∧ ∀ r ∈ t.take i, r < 2 ^ 2 ^ n)
          ⟨none, rfl, rfl, fun r hr => by simp at hr⟩ (fun i σ H' _ ⟨_, _, z, _⟩ => by rw [← z]; exact hS) ?_ ?_⟩
        · rintro i y σ H' hi ⟨v, rfl, rfl, hb⟩
          obtain ⟨r, hr2, rfl⟩ := nv_get hi
          refine ⟨_, rfl, _, _, rfl, rfl, _, rfl, ite2 (fun e => ?_) (fun e4 => ⟨_, rfl, _, rfl, _, _, rfl, rfl, _, rfl, ite2 (fun e => ?_) (fun e5 => ?_)⟩)⟩
          · have h := of_decide_eq_true e
            omega
          · have h := of_decide_eq_true e
            refine no rfl fun z => ?_
            have h6 := z.2.2.2 r (List.mem_of_getElem? hr2)
            omega
          · refine ⟨some (.int (r : Int)), rfl, rfl, fun x hx => ?_⟩
            rw [take_snoc hr2] at hx
            rcases List.mem_append.mp hx with hx | hx
            · exact hb x hx
            · rw [List.mem_singleton] at hx
              subst hx
              have h6 : ¬ ((2 ^ 2 ^ n : Nat) : Int) ≤ (x : Int) := fun z => e5 (decide_eq_true z)
              omega
        · rintro σ H' ⟨v, rfl, rfl, hb⟩
          rw [nv_len, List.take_length] at hb
          have z : Kzk1.okTowers n t = true := okT_iff.mpr ⟨by omega, h4, h3, hb⟩
          rw [z] at q
          exact q
theorem ok_State {f : Addr} {fd : FuncData} (F : Fun K "is_state" "is_state" sState f fd) {fPow : Addr} {fdPow : FuncData} (OPow : Ok P w K mg base 1 "power_of_two" sPow ["exponent"] fPow fdPow (spPow K)) : FnOk P w K mg base CX0 2 f fd ["n", "s"] (spState K) := by
  refine F.ok scState (fun vs H Q E h => ?_) (fun cdv A outer s H vs Q E hr h => ?_)
  · obtain ⟨n, s, rfl, _⟩ := h
    rfl
  · obtain ⟨n, st, rfl, hn, q⟩ := h
    refine ⟨_, pss_one (ps_ret (pe_and (pe_cmpR op_ge (pv 1) pe_int (nomark _)) (pe_one (pe_cmpR op_lt (pv 1) (pe_call OPow.G (hr.mono (by decide)) rfl OPow.g OPow.F.kp OPow.b .nil pass0 (pa_cons (pv 0) pa_nil)) (nomark _))))), ?_⟩
    refine ⟨_, rfl, _, _, rfl, rfl, _, rfl, ?_⟩
    rw [decide_eq_true (by omega : (0 : Int) ≤ (st : Int))]
    refine iteT ⟨_, rfl, _, rfl, n, rfl, hn, _, _, rfl, rfl, ?_⟩
    have e : decide ((st : Int) < ((2 ^ n : Nat) : Int)) = decide (st < 2 ^ n) := decide_eq_decide.mpr Int.ofNat_lt
    show Q (.bl (decide ((st : Int) < ((2 ^ n : Nat) : Int)))) H
    rw [e]
    exact q
theorem good_yes {n s : Nat} {t : List Nat} (h : Kzk1.good n s t = true) : Kzk1.okTowers n t = true ∧ n ≤ 4 ∧ t.length = n ∧ s < 2 ^ n := by
  unfold Kzk1.good at h
  rw [Bool.and_eq_true] at h
  obtain ⟨_, h2, h3, _⟩ := okT_iff.mp h.1
  exact ⟨h.1, h2, h3, of_decide_eq_true h.2⟩
theorem ok_Begin {f : Addr} {fd : FuncData} (F : Fun K "may_begin" "may_begin" sBegin f fd) {fTow : Addr} {fdTow : FuncData} (OTow : Ok P w K mg base 2 "are_towers" sTow ["n", "t"] fTow fdTow (spTow K)) {fState : Addr} {fdState : FuncData} (OState : Ok P w K mg base 2 "is_state" sState ["n", "s"] fState fdState (spState K)) : FnOk P w K mg base CX0 3 f fd ["n", "s", "t"] (spBegin K) := by
  refine F.ok scBegin (fun vs H Q E h => ?_) (fun cdv A outer s H vs Q E hr h => ?_)
  · obtain ⟨a, n, s, t, rfl, _⟩ := h
    rfl
  · obtain ⟨a, n, st, t, rfl, hS, q⟩ := h
    refine ⟨_, pss_one (ps_ret (pe_and (pe_call OTow.G (hr.mono (by decide)) rfl OTow.g OTow.F.kp OTow.b .nil pass0 (pa_cons (pv 0) (pa_cons (pv 2) pa_nil))) (pe_one (pe_call OState.G (hr.mono (by decide)) rfl OState.g OState.F.kp OState.b .nil pass0 (pa_cons (pv 0) (pa_cons (pv 1) pa_nil)))))), ?_⟩
    unfold Kzk1.good at q
    refine ⟨_, rfl, _, rfl, a, n, t, rfl, hS, _, rfl, ?_⟩
    cases hok : Kzk1.okTowers n t with
    | false =>
      rw [hok] at q
      exact iteF q
    | true =>
      have h4 := (okT_iff.mp hok).2.1
      rw [hok] at q
      exact iteT ⟨_, rfl, _, rfl, n, st, rfl, by omega, q⟩
theorem ok_Now {f : Addr} {fd : FuncData} (F : Fun K "flag_now" "flag_now" sNow f fd) : FnOk P w K mg base CX0 1 f fd ["state", "tower"] (spNow K) := by
  refine F.ok scNow (fun vs H Q E h => ?_) (fun cdv A outer s H vs Q E hr h => ?_)
  · obtain ⟨r, s, rfl, _⟩ := h
    rfl
  · obtain ⟨r, st, rfl, q⟩ := h
    refine ⟨_, pss_one (ps_ret (pe_op op_odd (pe_op op_shrN (pv 0) (pv 1)) pe_int)), ?_⟩
    refine ⟨_, rfl, _, rfl, (r : Int), st, rfl, rfl, r / 2 ^ st, ?_, rfl, q⟩
    refine congrArg V.int ?_
    rw [Int.natCast_ediv, Int.natCast_pow]
    rfl
theorem ok_Flag {f : Addr} {fd : FuncData} (F : Fun K "flag_next" "flag_next" sFlag f fd) : FnOk P w K mg base CX0 1 f fd ["rule", "state"] (spFlag K) := by
  refine F.ok scFlag (fun vs H Q E h => ?_) (fun cdv A outer s H vs Q E hr h => ?_)
  · obtain ⟨r, s, rfl, _⟩ := h
    rfl
  · obtain ⟨r, st, rfl, q⟩ := h
    refine ⟨_, pss_one (ps_ret (pe_op op_odd (pe_op op_shrN (pv 0) (pv 1)) pe_int)), ?_⟩
    refine ⟨_, rfl, _, rfl, (r : Int), st, rfl, rfl, r / 2 ^ st, ?_, rfl, q⟩
    refine congrArg V.int ?_
    rw [Int.natCast_ediv, Int.natCast_pow]
    rfl
theorem ok_Alone {f : Addr} {fd : FuncData} (F : Fun K "alone" "alone" sAlone f fd) {fPow : Addr} {fdPow : FuncData} (OPow : Ok P w K mg base 1 "power_of_two" sPow ["exponent"] fPow fdPow (spPow K)) {fNow : Addr} {fdNow : FuncData} (ONow : Ok P w K mg base 1 "flag_now" sNow ["state", "tower"] fNow fdNow (spNow K)) {fFlag : Addr} {fdFlag : FuncData} (OFlag : Ok P w K mg base 1 "flag_next" sFlag ["rule", "state"] fFlag fdFlag (spFlag K)) : FnOk P w K mg base CX0 2 f fd ["t", "tower", "state"] (spAlone K) := by
  refine F.ok scAlone (fun vs H Q E h => ?_) (fun cdv A outer s H vs Q E hr h => ?_)
  · obtain ⟨a, j, s, t, rfl, _⟩ := h
    rfl
  · obtain ⟨a, j, st, t, rfl, hS, hj, hj2, q⟩ := h
    obtain ⟨r, hr2⟩ : ∃ r, t[j]? = some r := ⟨_, List.getElem?_eq_getElem hj⟩
    refine ⟨_, pss_cons (ps_set (i := 3) scAlone.nd rfl (.inl rfl) (pe_op op_sub (pe_call OFlag.G (hr.mono (by decide)) rfl OFlag.g OFlag.F.kp OFlag.b .nil pass0 (pa_cons (pe_ix ix_list (pv 0) (pv 1) (fun _ _ => rfl)) (pa_cons (pv 2) pa_nil))) (pe_call ONow.G (hr.mono (by decide)) rfl ONow.g ONow.F.kp ONow.b .nil pass0 (pa_cons (pv 2) (pa_cons (pv 1) pa_nil)))))
      (pss_one (ps_ret (pe_op op_add (pv 2) (pe_op op_mul (pv 3) (pe_call OPow.G (hr.mono (by decide)) rfl OPow.g OPow.F.kp OPow.b .nil pass0 (pa_cons (pv 1) pa_nil)))))), ?_⟩
    refine ⟨_, rfl, _, rfl, a, nv t, (j : Int), V.int (r : Int), rfl, rfl, hS, atI_nat (nv_at hr2), _, rfl, r, st, rfl, ?_⟩
    refine ⟨_, rfl, _, rfl, st, j, rfl, _, _, rfl, rfl, ?_⟩
    refine ⟨_, rfl, _, rfl, _, rfl, j, rfl, hj2, _, _, rfl, rfl, .inl ⟨by omega, by omega⟩, _, _, rfl, rfl, ?_⟩
    show Q (.int ((st : Int) + (((r / 2 ^ st % 2 : Nat) : Int) - ((st / 2 ^ j % 2 : Nat) : Int)) * ((2 ^ j : Nat) : Int))) H
    rw [alone_is hr2]
    exact q
theorem ok_Pass {f : Addr} {fd : FuncData} (F : Fun K "one_pass" "one_pass" sPass f fd) {fAlone : Addr} {fdAlone : FuncData} (OAlone : Ok P w K mg base 2 "alone" sAlone ["t", "tower", "state"] fAlone fdAlone (spAlone K)) : FnOk P w K mg base CX0 3 f fd ["t", "order", "state"] (spPass K) := by
  refine F.ok scPass (fun vs H Q E h => ?_) (fun cdv A outer s H vs Q E hr h => ?_)
  · obtain ⟨a, b, s, t, o, rfl, _⟩ := h
    rfl
  · obtain ⟨a, b, st, t, o, rfl, hS, hO, hj, hl, q⟩ := h
    refine ⟨_, pss_cons (ps_set (i := 3) scPass.nd rfl (.inl rfl) (pv 2))
      (pss_cons (ps_for PassesOwn.never rfl (pi_list (pv 1)) (pg_name (i := 4) scPass.nd rfl (.inl rfl))
        (pss_one (ps_set (i := 3) scPass.nd rfl (.inl rfl) (pe_call OAlone.G (hr.mono (by decide)) rfl OAlone.g OAlone.F.kp OAlone.b .nil pass0 (pa_cons (pv 0) (pa_cons (pv 4) (pa_cons (pv 3) pa_nil)))))))
      (pss_one (ps_ret (pv 3)))), ?_⟩
    refine ⟨_, rfl, _, rfl, b, rfl, ⟨_, hO⟩, for_list (K := K) (a := b) (xs := nv o) (fun i σ H' => ∃ v : Option V, σ = [some (.ref a), some (.ref b), some (.int (st : Int)), some (.int ((Kzk3.pass t (o.take i) st : Nat) : Int)), v] ∧ H = H')
      ⟨none, rfl, rfl⟩ (fun i σ H' _ ⟨_, _, z⟩ => by rw [← z]; exact hO) ?_ ?_⟩
    · rintro i y σ H' hi ⟨v, rfl, rfl⟩
      obtain ⟨j, hj2, rfl⟩ := nv_get hi
      have h1 := hj j (List.mem_of_getElem? hj2)
      refine ⟨_, rfl, _, rfl, _, rfl, a, j, Kzk3.pass t (o.take i) st, t, rfl, hS, h1, by omega, some (.int (j : Int)), ?_, rfl⟩
      rw [take_snoc hj2, KzM.pass_snoc]
      rfl
    · rintro σ H' ⟨v, rfl, rfl⟩
      rw [nv_len, List.take_length]
      exact ⟨_, rfl, q⟩
theorem ref_at {ps : List (Addr × List Nat)} {i : Nat} {y : V} (h : (ps.map fun x => V.ref x.1)[i]? = some y) : ∃ x : Addr × List Nat, ps[i]? = some x ∧ y = V.ref x.1 := by
  rw [List.getElem?_map] at h
  cases e : ps[i]? with
  | none =>
    rw [e] at h
    cases h
  | some x =>
    rw [e] at h
    exact ⟨x, rfl, (Option.some.inj h).symm⟩
theorem flat_nv : ∀ t : List Nat, (nv t).all flatV = true
  | [] => rfl
  | _ :: t => by
    show (true && (nv t).all flatV) = true
    rw [flat_nv t]
    rfl
theorem in_nv (j : Nat) : ∀ t : List Nat, inV (.int (0 + (j : Int))) (nv t) = t.contains j
  | [] => rfl
  | x :: t => by
    have ih := in_nv j t
    show (eqV (.int (x : Int)) (.int (0 + (j : Int))) || inV (.int (0 + (j : Int))) (nv t)) = _
    rw [ih, Int.zero_add, List.contains_cons]
    refine congrArg (· || t.contains j) ?_
    show ((x : Int) == (j : Int)) = (j == x)
    by_cases e : j = x
    · rw [e]
      simp
    · have e2 : ¬ (x : Int) = (j : Int) := by omega
      rw [beq_false_of_ne e2, beq_false_of_ne e]
/-- one list more -/
theorem Rows.more {H : Hp} {l p r : Addr} {o : HO} {qs : List (Addr × List Nat)} {z : List Nat} (h : Rows H l qs) (hp : H p = none) (hr : upd H p o r = none) : Rows (upd (upd (upd H p o) r (.lst (nv z))) l (.lst ((qs.map fun x => V.ref x.1) ++ [V.ref r]))) l (qs ++ [(r, z)]) := by
  have hl : upd H p o l = some (.lst (qs.map fun x => V.ref x.1)) := same_upd hp _ _ h.1
  have hrl : r ≠ l := (ne_of_none hl hr).symm
  refine ⟨?_, fun x hx => ?_⟩
  · rw [upd_same, List.map_append]
    rfl
  · rcases List.mem_append.mp hx with hx | hx
    · obtain ⟨h1, h2⟩ := h.2 x hx
      have h3 : upd H p o x.1 = some (.lst (nv x.2)) := same_upd hp _ _ h2
      refine ⟨h1, ?_⟩
      rw [upd_ne h1, upd_ne (ne_of_none h3 hr)]
      exact h3
    · rw [List.mem_singleton] at hx
      subst hx
      refine ⟨hrl, ?_⟩
      show upd _ l _ r = _
      rw [upd_ne hrl, upd_same]
theorem ok_Orders {f : Addr} {fd : FuncData} (F : Fun K "all_orders" "all_orders" sOrders f fd) (m_range : mg "range" = none) : FnOk P w K mg base CX0 1 f fd ["n"] (spOrders K) := by
  refine F.ok scOrders (fun vs H Q E h => ?_) (fun cdv A outer s H vs Q E hr h => ?_)
  · obtain ⟨n, rfl, _⟩ := h
    rfl
  · obtain ⟨n, rfl, hn, q⟩ := h
    refine ⟨_, pss_cons (ps_set (i := 1) scOrders.nd rfl (.inl rfl) (pe_lst (pa_cons (pe_lst pa_nil) pa_nil)))
      (pss_cons (ps_for PassesOwn.never rfl (pi_range1 (by rfl) m_range (pa_cons (pv 0) pa_nil)) (pg_name (i := 2) scOrders.nd rfl (.inl rfl))
        (pss_cons (ps_set (i := 3) scOrders.nd rfl (.inl rfl) (pe_lst pa_nil))
        (pss_cons (ps_for PassesOwn.never rfl (pi_list (pv 1)) (pg_name (i := 4) scOrders.nd rfl (.inl rfl))
          (pss_one (ps_for PassesOwn.never rfl (pi_range1 (by rfl) m_range (pa_cons (pv 0) pa_nil)) (pg_name (i := 5) scOrders.nd rfl (.inl rfl))
            (pss_one (ps_if (pt_cmpR op_notIn_seq (pv 5) (pv 4) (by rfl))
              (pss_one (ps_expr (pe_bm PySem.F.plainAttrs_list PySem.F.slot_list_append PySem.F.type_list_append mt_append (pv 3) (pa_cons (pe_op op_cat (pv 4) (pe_lst (pa_cons (pv 5) pa_nil))) pa_nil))))
              pss_nil)))))
        (pss_one (ps_set (i := 1) scOrders.nd rfl (.inl rfl) (pv 3))))))
      (pss_one (ps_ret (pv 1)))), ?_⟩
    refine ⟨(by show 0 ≤ sizeLine; decide), fun e he => ⟨(by show 1 ≤ sizeLine; decide), fun q0 hq0 => ?_⟩⟩
    refine ⟨_, rfl, (n : Int), rfl, by omega, by omega, for_range (lo := 0) (n := (n : Int).toNat) (fun i σ H' => ∃ (q1 : Addr) (ps : List (Addr × List Nat)) (v2 v3 v4 v5 : Option V), σ = [some (.int (n : Int)), some (.ref q1), v2, v3, v4, v5] ∧ Same H H' ∧ Rows H' q1 ps ∧ ps.map (·.2) = KzM.lev n i)
      ⟨q0, [(e, [])], none, none, none, none, rfl, (same_upd he).trans (same_upd hq0), ⟨upd_same, fun x hx => ?_⟩, rfl⟩ ?_ ?_⟩
    · rw [List.mem_singleton] at hx
      subst hx
      have h1 : e ≠ q0 := ne_of_none upd_same hq0
      refine ⟨h1, ?_⟩
      show upd _ q0 _ e = _
      rw [upd_ne h1, upd_same]
      rfl
    · rintro i σ H1 hi ⟨q1, ps, v2, v3, v4, v5, rfl, sm, hR, hl⟩
      rw [Int.toNat_natCast] at hi
      have hw : ps.length = (KzM.lev n i).length := by rw [← hl, List.length_map]
      have hf := KzM.lev_few hn hi
      refine ⟨(by show 0 ≤ sizeLine; decide), fun l nl => ?_⟩
      have s1 : Same H1 (upd H1 l (.lst [])) := same_upd nl
      refine ⟨_, rfl, q1, rfl, ⟨_, SqL.of (s1 _ _ hR.1)⟩, for_list (K := K) (a := q1) (xs := ps.map fun x => V.ref x.1) (fun k σ H' => ∃ (qs : List (Addr × List Nat)) (v4 v5 : Option V), σ = [some (.int (n : Int)), some (.ref q1), some (.int (0 + (i : Int))), some (.ref l), v4, v5] ∧ Same H1 H' ∧ Rows H' l qs ∧ qs.map (·.2) = ((KzM.lev n i).take k).flatMap fun p => KzM.ext p n)
        ⟨[], v4, v5, rfl, s1, ⟨upd_same, fun x hx => by cases hx⟩, rfl⟩ (fun k σ H' _ ⟨_, _, _, _, z, _⟩ => SqL.of (z _ _ hR.1)) ?_ ?_⟩
      · rintro k y σ H2 hk ⟨qs, v4, v5, rfl, sm2, hR2, hq⟩
        obtain ⟨x, hx, rfl⟩ := ref_at hk
        have hxl : (KzM.lev n i)[k]? = some x.2 := by
          rw [← hl, List.getElem?_map, hx]
          rfl
        have hkl : k < (KzM.lev n i).length := (List.getElem?_eq_some_iff.mp hxl).1
        have hxm := hR.2 x (List.mem_of_getElem? hx)
        refine ⟨_, rfl, (n : Int), rfl, by omega, by omega, for_range (lo := 0) (n := (n : Int).toNat) (fun j σ H' => ∃ (qs : List (Addr × List Nat)) (v5 : Option V), σ = [some (.int (n : Int)), some (.ref q1), some (.int (0 + (i : Int))), some (.ref l), some (.ref x.1), v5] ∧ Same H1 H' ∧ Rows H' l qs ∧ qs.map (·.2) = (((KzM.lev n i).take k).flatMap fun p => KzM.ext p n) ++ KzM.ext x.2 j)
          ⟨qs, v5, rfl, sm2, hR2, ?_⟩ ?_ ?_⟩
        · rw [hq]
          exact (List.append_nil _).symm
        · rintro j σ H3 hj ⟨qs, v5, rfl, sm3, hR3, hq3⟩
          rw [Int.toNat_natCast] at hj
          have hx3 : H3 x.1 = some (.lst (nv x.2)) := sm3 _ _ hxm.2
          refine ⟨_, rfl, _, rfl, x.1, nv x.2, rfl, .inl (SqL.of hx3), rfl, flat_nv _, _, rfl, ?_⟩
          rw [in_nv]
          cases c : x.2.contains j with
          | true =>
            refine iteF ⟨qs, some (.int (0 + (j : Int))), rfl, sm3, hR3, ?_⟩
            rw [KzM.ext_yes c]
            exact hq3
          | false =>
            have hlen : qs.length ≤ 256 := by
              have e1 : qs.length = (qs.map (·.2)).length := (List.length_map _).symm
              rw [e1, hq3, List.length_append]
              have e2 := KzM.flat_len (fun p => KzM.ext_len p n) ((KzM.lev n i).take k)
              have e3 := KzM.ext_len x.2 j
              rw [List.length_take] at e2
              have e4 : min k (KzM.lev n i).length * n ≤ 63 * 4 := Nat.mul_le_mul (by omega) hn
              omega
            refine iteT ⟨_, rfl, .inl ⟨rfl, _, SqL.of hR3.1⟩, _, rfl, _, rfl, (by show 1 ≤ sizeLine; decide), fun p np => ?_⟩
            refine ⟨x.1, p, nv x.2, [V.int (0 + (j : Int))], rfl, rfl, same_upd np _ _ hx3, upd_same, ?_, fun r nr => ?_⟩
            · have e1 := KzM.lev_w (List.mem_of_getElem? hxl)
              rw [nv_len, e1]
              exact Nat.le_of_lt (small1000 (by show i + 1 ≤ 1000; omega))
            · have e1 : nv x.2 ++ [V.int (0 + (j : Int))] = nv (x.2 ++ [j]) := by rw [nv_snoc, Int.zero_add]
              rw [e1]
              refine ⟨l, _, _, rfl, rfl, same_upd nr _ _ (same_upd np _ _ hR3.1), ?_, qs ++ [(r, x.2 ++ [j])], some (.int (0 + (j : Int))), rfl, same_upd2 nl ((sm3.trans (same_upd np)).trans (same_upd nr)), hR3.more np nr, ?_⟩
              · rw [List.length_map]
                exact small1000 (by omega)
              · rw [List.map_append, hq3, KzM.ext_no c, List.append_assoc]
                rfl
        · rintro σ H3 ⟨qs, v5, rfl, sm3, hR3, hq3⟩
          rw [Int.toNat_natCast] at hq3
          refine ⟨qs, some (.ref x.1), v5, rfl, sm3, hR3, ?_⟩
          rw [take_snoc hxl, List.flatMap_append, hq3, List.flatMap_singleton]
      · rintro σ H2 ⟨qs, v4, v5, rfl, sm2, hR2, hq⟩
        rw [List.length_map, hw, List.take_length] at hq
        exact ⟨_, rfl, l, qs, _, _, _, _, rfl, sm.trans sm2, hR2, hq⟩
    · rintro σ H2 ⟨q1, ps, v2, v3, v4, v5, rfl, sm, hR, hl⟩
      rw [Int.toNat_natCast, KzM.lev_all] at hl
      exact ⟨_, rfl, q H2 q1 ps sm hR hl⟩
/-! ### set(xs), xs a list of numbers -/
section
variable {P : Program} {w : World} {s : Shared} {A : Around} {E : Value → Shared → Prop}
/-- a new set, empty -/
abbrev bare (w : World) : Obj := { cls := .type "set", dict := none, data := .set #[] 0 (.fresh 0 0 (!w.params.followText "set-order")) }
/-- what is left behind: a set at a with just these numbers, all else as it was -/
def Left (w : World) (h0 : Heap) (ns : List Int) (h : Heap) : Prop := ∃ c, c ≤ ns.length ∧ SetR w h h0.objs.size (fun j => decide (j ∈ ns)) c ∧ ∀ b o, h0.get? b = some o → h.get? b = some o
theorem int_of {its : Array Value} {ns : List Int} (hv : IntsAre its.toList ns) (i : Nat) (v : Value) (e : its[i]? = some v) : ∃ k t, ns[i]? = some k ∧ v = .int k t := by
  rw [← Array.getElem?_toList] at e
  have hl : its.toList.length = ns.length := IntsAre.length hv
  have hi : i < ns.length := by
    have := (List.getElem?_eq_some_iff.mp e).1
    omega
  obtain ⟨t, z⟩ := hv.get i _ (List.getElem?_eq_getElem hi)
  rw [e] at z
  exact ⟨_, t, List.getElem?_eq_getElem hi, Option.some.inj z⟩
theorem lt_ne {h : Heap} {b : Addr} {o : Obj} (e : h.get? b = some o) : b ≠ h.objs.size := Nat.ne_of_lt (Heap.lt_size e)
set_option maxHeartbeats 3900000 in
/-- its numbers, one by one -/
theorem set_filled {l : Addr} {its : Array Value} {ns : List Int} {R : Result → Shared → Prop} (hh : A.handled = none) (hl : s.heap.IsList l its) (hv : IntsAre its.toList ns) (few : ns.length + 1 < scanBound)
    (q : ∀ h' tk, Left w s.heap ns h' → R (.ok (.ret .none)) { s with heap := h', toks := tk }) :
    codeAny (model P w) A (.builtin "set.update.loop" ⟨[.ref s.heap.objs.size, .ref (s.heap.push (bare w)).objs.size], []⟩) R { s with heap := (s.heap.push (bare w)).push { cls := .type "list_iterator", data := .fields #[.ref l, .int 0 0] } } := by
  have hn : its.size = ns.length := by
    rw [← Array.length_toList]
    exact IntsAre.length hv
  obtain ⟨ol, hol, hcl, nl, hdl⟩ := id hl
  have z1 : (s.heap.push (bare w)).objs.size = s.heap.objs.size + 1 := Heap.size_push ..
  have lt := Heap.lt_size hol
  have hl1 : (s.heap.push (bare w)).IsList l its := hl.push _
  have s0 : s.heap.objs.size ≠ s.heap.objs.size + 1 := Nat.ne_of_lt (Nat.lt_succ_self _)
  have ne : l ≠ (s.heap.push (bare w)).objs.size := by
    rw [z1]
    exact Nat.ne_of_lt (Nat.lt_succ_of_lt lt)
  refine set_update_ints ((Walks.list (A := A.in1) (by rw [← hh]) _ l ne its).toS) s.heap.objs.size ?_ ns hn few (int_of hv) its.size 0 _ (Nat.sub_zero _) (Nat.zero_le _) ⟨⟨_, Heap.get?_push_size _ rfl, rfl, rfl⟩, hl1.push _⟩ ⟨0, Nat.le_refl 0, setR_new_at (Heap.get?_push_of_some _ (Heap.get?_push_size _ rfl))⟩ fun s' c hm hc hS => ?_
  · intro z
    rcases List.mem_cons.mp z with u | u
    · exact s0 (u.trans z1)
    · exact Nat.ne_of_lt lt (List.mem_singleton.mp u).symm
  · obtain ⟨h', g2, d2, tk2, os2⟩ := s'
    have e1 : g2 = s.gens := hm.gens
    have e2 : d2 = s.drawn := hm.drawn
    have e3 : os2 = s.os := hm.os
    subst e1 e2 e3
    refine q h' tk2 ⟨c, by omega, hS, fun b o e => ?_⟩
    have lb := Heap.lt_size e
    refine hm.heap b o (fun z => ?_) (Heap.get?_push_of_some _ (Heap.get?_push_of_some _ e))
    rcases List.mem_cons.mp z with u | u
    · exact Nat.ne_of_lt lb u
    · exact Nat.ne_of_lt (Nat.lt_succ_of_lt lb) ((List.mem_singleton.mp u).trans z1)
set_option maxHeartbeats 3900000 in
/-- a new set of a list's numbers -/
theorem set_called {l : Addr} {its : Array Value} {ns : List Int} {Q : Value → Shared → Prop} (hh : A.handled = none) (hl : s.heap.IsList l its) (hv : IntsAre its.toList ns) (few : ns.length + 1 < scanBound)
    (q : ∀ h' tk, Left w s.heap ns h' → Q (.ref s.heap.objs.size) { s with heap := h', toks := tk }) : wpAny (model P w) A (call (.type "set") [.ref l]) Q E s := by
  obtain ⟨m1, m2, m3⟩ := PySem.F.called_set.mro
  have w1 := PySem.F.called_set.made
  have w2 := PySem.F.called_set.sub
  have w3 := PySem.F.called_set.notType
  have w4 := PySem.F.called_set.canCreate
  have w5 := PySem.F.typeCall_set_1 (.ref l)
  have w0 := weight_type_call_type "set" [.ref l] []
  apply wpAny_call
  apply codeAny_of_tree
  show wpAny _ _ (callAny (.type "set") ⟨[.ref l], []⟩) _ _ s
  refine wpAny_pure ⟨Code.quiet_builtin _ (by decide +kernel), ?_⟩
  refine codeAny_builtin PySem.F.entry_type_call ?_
  rw [Around.under_plain w0 rfl]
  repeat any_goals (first | assumption | wp_step)
  refine codeAny_mono (code_set_led1 (.ref l) (E := E) (Q₁ := fun v s1 => v = .ref s.heap.objs.size ∧ s1 = { s with heap := s.heap.push (bare w) }) ⟨rfl, rfl⟩) fun r s1 hr => ?_
  cases r with
  | error e => exact hr
  | ok fl =>
    cases fl with
    | ret v =>
      obtain ⟨rfl, rfl⟩ := hr
      have at0 : (s.heap.push (bare w)).get? s.heap.objs.size = some (bare w) := Heap.get?_push_size _ rfl
      have ty : Shared.TypeIs { s with heap := s.heap.push (bare w) } (.ref s.heap.objs.size) "set" := ⟨_, at0, rfl⟩
      have w6 := PySem.F.called_set.init.lookup
      have w7 := PySem.F.called_set.init.bind (.ref s.heap.objs.size)
      repeat any_goals (first | assumption | wp_step)
      refine codeAny_mono (codeAny_call_builtin (R := wants (fun r s2 => r = .none ∧ ∃ h' tk, s2 = { s with heap := h', toks := tk } ∧ Left w s.heap ns h') E) PySem.F.called_set.init.plain PySem.F.entry_set_init (check_set_init_1 ty ?_)) fun r2 s2 hr2 => ?_
      · obtain ⟨⟨oc, od, oa, os⟩, hol, hcl, nl, hdl⟩ := id hl
        simp only at hcl hdl
        subst hcl hdl
        have at1 := Heap.get?_push_of_some (bare w) hol
        have w8 := PySem.F.sub_list_set
        have w9 := PySem.F.sub_list_frozenset
        have w10 : (Value.type "list" == Value.type "dict") = false := by decide
        unfold Builtin.«set.__init__» noKeywords
        unfold Builtin.Frozenset.updateFrom
        generalize hPI : pyIter = PI
        wp_walk
        subst hPI
        refine wpAny_pyIter_list (hl.push (bare w)) (wpAny_bind (wpAny_runValue ?_))
        refine set_filled (by simp [hh]) hl hv few fun h' tk z => ?_
        refine wpAny_pure ?_
        exact wpAny_pure ⟨rfl, h', tk, rfl, z⟩
      · cases r2 with
        | error e => exact hr2
        | ok fl2 =>
          cases fl2 with
          | ret r =>
            obtain ⟨rfl, h', tk, rfl, z⟩ := hr2
            repeat any_goals (first | assumption | wp_step)
            exact q _ _ z
          | _ => exact hr2.elim
    | _ => exact hr.elim
end
section
variable {X : Cx}
def rSetI (K : PySem.W.Frag) (w : World) : List V → Hp → VK → Prop := fun xs H Q => ∃ (l : Addr) (ns : List Int), xs = [V.ref l] ∧ SqL K H l (ns.map V.int) ∧ ns.length ≤ 1000 ∧
  ∀ (a : Addr) (c : Nat), H a = none → c ≤ ns.length → Q (.ref a) (upd H a (SetO w a (fun j => decide (j ∈ ns)) c))
theorem cr_setI (hc : X.calm = true) : CallR X (.type "set") (rSetI X.K X.w) := by
  intro pins s σ H vs us Q I r ⟨l, ns, e, hq, few, q⟩
  subst e
  rw [Vals.ref1 r]
  have ⟨its, rv, pl, _⟩ := I.list hq
  refine set_called (I.ok.hd hc) pl.isList (ints_of_vals rv) (by unfold scanBound; omega) fun h' tk z => ?_
  obtain ⟨c, hcn, hS, k⟩ := z
  have new : H s.heap.objs.size = none := I.hok.fresh (Nat.le_refl _)
  refine ⟨.ref _, upd H s.heap.objs.size (SetO X.w s.heap.objs.size (fun j => decide (j ∈ ns)) c), ?_, rfl, q _ c new hcn⟩
  exact I.laid (t' := tk) k (Nat.le_refl _) (setO_new hS)
end
theorem few_orders {n i : Nat} {ps : List (Addr × List Nat)} (hn : n ≤ 4) (h : ps.map (·.2) = Kzk3.orders n) : (ps.take i).length ≤ 24 := by
  have e : ps.length ≤ 24 := by
    have := KzM.orders_24 hn
    rw [← h, List.length_map] at this
    exact this
  rw [List.length_take]
  exact Nat.le_trans (Nat.min_le_right _ _) e
theorem ok_Brings {f : Addr} {fd : FuncData} (F : Fun K "brings" "brings" sBrings f fd) {fBegin : Addr} {fdBegin : FuncData} (OBegin : Ok P w K mg base 3 "may_begin" sBegin ["n", "s", "t"] fBegin fdBegin (spBegin K)) {fPass : Addr} {fdPass : FuncData} (OPass : Ok P w K mg base 3 "one_pass" sPass ["t", "order", "state"] fPass fdPass (spPass K)) {fOrders : Addr} {fdOrders : FuncData} (OOrders : Ok P w K mg base 1 "all_orders" sOrders ["n"] fOrders fdOrders (spOrders K)) (m_sorted : mg "sorted" = none) (m_set : mg "set" = none) (m_len : mg "len" = none) {tgREFUSED : Nat} (gREFUSED : mg "REFUSED" = some (.int (-22) tgREFUSED)) : FnOk P w K mg base CX0 4 f fd ["n", "s", "t"] (spBrings K) := by
  refine F.ok scBrings (fun vs H Q E h => ?_) (fun cdv A outer s H vs Q E hr h => ?_)
  · obtain ⟨a, n, s, t, rfl, _⟩ := h
    rfl
  · obtain ⟨a, n, st, t, rfl, hS, q⟩ := h
    refine ⟨_, pss_cons (ps_if (pt_not (pt_val (pe_call OBegin.G (hr.mono (by decide)) rfl OBegin.g OBegin.F.kp OBegin.b .nil pass0 (pa_cons (pv 0) (pa_cons (pv 1) (pa_cons (pv 2) pa_nil)))))) (pss_one (ps_ret (pe_lst (pa_cons (pe_glob (v := V.int (-22)) rfl gREFUSED ⟨_, rfl⟩) pa_nil)))) pss_nil)
      (pss_cons (ps_set (i := 3) scBrings.nd rfl (.inl rfl) (pe_callB (cr_sortedSet (by rfl)) (by rfl) m_sorted (by decide +kernel) (pa_cons (pe_callTy (cr_setI (by rfl)) (by rfl) m_set (by decide +kernel) (pa_cons
        (pe_lc (own := [("order", 4)]) (g := gName 4) (tt := tYes) (by rfl) scBrings.nd
          (pi_list (pe_call OOrders.G (hr.mono (by decide)) rfl OOrders.g OOrders.F.kp OOrders.b .nil pass0 (pa_cons (pv 0) pa_nil)))
          (blkOk_by (own := [("order", 4)]) (N := ["n", "s", "t", "brought", "order"]) (sc := defScope sBrings) (by decide +kernel))
          (fun _ _ _ _ _ => pg_name (i := 4) scBrings.nd rfl (Or.inl rfl))
          (fun _ _ _ _ _ => pts_nil)
          (fun _ _ _ _ _ => (pe_call OPass.G (hr.mono (by decide)) rfl OPass.g OPass.F.kp OPass.b .nil pass0 (pa_cons (pv 2) (pa_cons (pv 4) (pa_cons (pv 1) pa_nil)))))) pa_nil)) pa_nil)))
      (pss_one (ps_ret (pe_op op_cat (pe_lst (pa_cons (pe_callB call_len_seq (by rfl) m_len PySem.boot_len (pa_cons (pv 3) pa_nil)) pa_nil)) (pv 3))))), ?_⟩
    refine ⟨_, rfl, _, rfl, _, rfl, a, n, st, t, rfl, hS, _, rfl, ?_⟩
    unfold brought at q
    cases hok : Kzk1.good n st t with
    | false =>
      refine iteT ⟨(by show 1 ≤ sizeLine; decide), fun p hp => ?_⟩
      refine q _ p ?_
      rw [upd_same, if_pos hok]
      rfl
    | true =>
      refine iteF ?_
      obtain ⟨h1, h2, h3, h4⟩ := good_yes hok
      rw [if_neg (by rw [hok]; exact Bool.noConfusion)] at q
      refine ⟨_, rfl, n, rfl, h2, fun H1 q1 ps sm hR hl => ⟨q1, rfl, ⟨_, SqL.of hR.1⟩, fun D hD => lc_list (K := K) (a := q1) (xs := ps.map fun x => V.ref x.1) (fun i H' => Same H1 H' ∧ H' D = some (.lst (nv ((ps.take i).map fun x => Kzk3.pass t x.2 st)))) ⟨same_upd hD, upd_same⟩ (fun i H' _ z => SqL.of (z.1 _ _ hR.1)) ?_ ?_⟩⟩
      · rintro i y H' hi ⟨sm2, hD2⟩
        obtain ⟨x, hx, rfl⟩ := ref_at hi
        have hxo : x.2 ∈ Kzk3.orders n := by
          rw [← hl]
          exact List.mem_map_of_mem (List.mem_of_getElem? hx)
        refine ⟨rfl, _, rfl, _, rfl, _, rfl, a, x.1, st, t, x.2, rfl, (sm.trans sm2).seq hS, SqL.of (sm2 _ _ (hR.2 x (List.mem_of_getElem? hx)).2), fun j hj => by rw [h3]; exact KzM.orders_lt hxo j hj, by omega, _, hD2, ?_, same_upd2 hD sm2, ?_⟩
        · rw [nv_len, List.length_map]
          exact small1000 (Nat.le_trans (few_orders h2 hl) (by decide))
        · rw [upd_same, take_snoc hx, List.map_append, ← nv_snoc]
          rfl
      · rintro H' ⟨sm2, hD2⟩
        rw [List.length_map, List.take_length, nv_zs] at hD2
        have hw : (zs (ps.map fun x => Kzk3.pass t x.2 st)).length ≤ 24 := by
          have := few_orders (i := ps.length) h2 hl
          unfold zs
          rw [List.length_map, List.length_map]
          rw [List.take_length] at this
          exact this
        have hz : ps.map (fun x => Kzk3.pass t x.2 st) = (Kzk3.orders n).map fun o => Kzk3.pass t o st := by
          rw [← hl, List.map_map]
          rfl
        refine ⟨D, _, rfl, SqL.of hD2, by omega, fun b c nb hc => ?_⟩
        refine ⟨b, _, c, rfl, upd_same, by omega, fun ns p up mem len np => ?_⟩
        have e : ns = zs (Kzk3.brings n t st) := by
          refine KzM.rise_eq up (KzM.brings_rise n t st) fun k => ?_
          rw [mem k, decide_eq_true_eq, hz]
          exact (KzM.brings_mem h4 k).symm
        subst e
        refine ⟨.ref p, rfl, p, _, rfl, .inl (SqL.of upd_same), (by show 1 ≤ sizeLine; decide), fun d hd => ?_⟩
        refine ⟨.ref p, rfl, d, p, _, _, rfl, rfl, upd_same, same_upd hd _ _ upd_same, ?_, fun r hr => q _ r ?_⟩
        · rw [List.length_map]
          exact Nat.le_of_lt (small1000 (by show 1 + _ ≤ 1000; omega))
        · rw [upd_same, List.length_map]
          unfold zs
          rw [List.length_map]
          rfl
end
theorem all_mk {P : Program} {w : World} {K : PySem.W.Frag} {h : Heap} {mg : Str → Option Value} {fa : Addr} (X : K.In h) (G : h.Ns mainGlobals mg) (hfa : mg "brings" = some (.ref fa))
    {f0 : Addr} {od0 an0 : Option Addr} {sl0 : Array (Option Value)} {oc0 kV0 dc0 pm0 cd0 ct0 : Value} (a0 : PySem.W.nsIn K mainGlobals "power_of_two" = some (some (.ref f0))) (l0 : K.lookup f0 = some ⟨oc0, od0, .func (PySem.W.fnOf "power_of_two" "power_of_two" (defArgs sPow) (defBody sPow) (defScope sPow) .none kV0 dc0 pm0 an0 cd0 ct0), sl0⟩) (c0 : PySem.W.codeIn K cd0 "power_of_two" = true) (k0 : PySem.W.keepIn K (.ref f0) = true)
    {f1 : Addr} {od1 an1 : Option Addr} {sl1 : Array (Option Value)} {oc1 kV1 dc1 pm1 cd1 ct1 : Value} (a1 : PySem.W.nsIn K mainGlobals "are_towers" = some (some (.ref f1))) (l1 : K.lookup f1 = some ⟨oc1, od1, .func (PySem.W.fnOf "are_towers" "are_towers" (defArgs sTow) (defBody sTow) (defScope sTow) .none kV1 dc1 pm1 an1 cd1 ct1), sl1⟩) (c1 : PySem.W.codeIn K cd1 "are_towers" = true) (k1 : PySem.W.keepIn K (.ref f1) = true)
    {f2 : Addr} {od2 an2 : Option Addr} {sl2 : Array (Option Value)} {oc2 kV2 dc2 pm2 cd2 ct2 : Value} (a2 : PySem.W.nsIn K mainGlobals "is_state" = some (some (.ref f2))) (l2 : K.lookup f2 = some ⟨oc2, od2, .func (PySem.W.fnOf "is_state" "is_state" (defArgs sState) (defBody sState) (defScope sState) .none kV2 dc2 pm2 an2 cd2 ct2), sl2⟩) (c2 : PySem.W.codeIn K cd2 "is_state" = true) (k2 : PySem.W.keepIn K (.ref f2) = true)
    {f3 : Addr} {od3 an3 : Option Addr} {sl3 : Array (Option Value)} {oc3 kV3 dc3 pm3 cd3 ct3 : Value} (a3 : PySem.W.nsIn K mainGlobals "may_begin" = some (some (.ref f3))) (l3 : K.lookup f3 = some ⟨oc3, od3, .func (PySem.W.fnOf "may_begin" "may_begin" (defArgs sBegin) (defBody sBegin) (defScope sBegin) .none kV3 dc3 pm3 an3 cd3 ct3), sl3⟩) (c3 : PySem.W.codeIn K cd3 "may_begin" = true) (k3 : PySem.W.keepIn K (.ref f3) = true)
    {f4 : Addr} {od4 an4 : Option Addr} {sl4 : Array (Option Value)} {oc4 kV4 dc4 pm4 cd4 ct4 : Value} (a4 : PySem.W.nsIn K mainGlobals "flag_now" = some (some (.ref f4))) (l4 : K.lookup f4 = some ⟨oc4, od4, .func (PySem.W.fnOf "flag_now" "flag_now" (defArgs sNow) (defBody sNow) (defScope sNow) .none kV4 dc4 pm4 an4 cd4 ct4), sl4⟩) (c4 : PySem.W.codeIn K cd4 "flag_now" = true) (k4 : PySem.W.keepIn K (.ref f4) = true)
    {f5 : Addr} {od5 an5 : Option Addr} {sl5 : Array (Option Value)} {oc5 kV5 dc5 pm5 cd5 ct5 : Value} (a5 : PySem.W.nsIn K mainGlobals "flag_next" = some (some (.ref f5))) (l5 : K.lookup f5 = some ⟨oc5, od5, .func (PySem.W.fnOf "flag_next" "flag_next" (defArgs sFlag) (defBody sFlag) (defScope sFlag) .none kV5 dc5 pm5 an5 cd5 ct5), sl5⟩) (c5 : PySem.W.codeIn K cd5 "flag_next" = true) (k5 : PySem.W.keepIn K (.ref f5) = true)
    {f6 : Addr} {od6 an6 : Option Addr} {sl6 : Array (Option Value)} {oc6 kV6 dc6 pm6 cd6 ct6 : Value} (a6 : PySem.W.nsIn K mainGlobals "alone" = some (some (.ref f6))) (l6 : K.lookup f6 = some ⟨oc6, od6, .func (PySem.W.fnOf "alone" "alone" (defArgs sAlone) (defBody sAlone) (defScope sAlone) .none kV6 dc6 pm6 an6 cd6 ct6), sl6⟩) (c6 : PySem.W.codeIn K cd6 "alone" = true) (k6 : PySem.W.keepIn K (.ref f6) = true)
    {f7 : Addr} {od7 an7 : Option Addr} {sl7 : Array (Option Value)} {oc7 kV7 dc7 pm7 cd7 ct7 : Value} (a7 : PySem.W.nsIn K mainGlobals "one_pass" = some (some (.ref f7))) (l7 : K.lookup f7 = some ⟨oc7, od7, .func (PySem.W.fnOf "one_pass" "one_pass" (defArgs sPass) (defBody sPass) (defScope sPass) .none kV7 dc7 pm7 an7 cd7 ct7), sl7⟩) (c7 : PySem.W.codeIn K cd7 "one_pass" = true) (k7 : PySem.W.keepIn K (.ref f7) = true)
    {f8 : Addr} {od8 an8 : Option Addr} {sl8 : Array (Option Value)} {oc8 kV8 dc8 pm8 cd8 ct8 : Value} (a8 : PySem.W.nsIn K mainGlobals "all_orders" = some (some (.ref f8))) (l8 : K.lookup f8 = some ⟨oc8, od8, .func (PySem.W.fnOf "all_orders" "all_orders" (defArgs sOrders) (defBody sOrders) (defScope sOrders) .none kV8 dc8 pm8 an8 cd8 ct8), sl8⟩) (c8 : PySem.W.codeIn K cd8 "all_orders" = true) (k8 : PySem.W.keepIn K (.ref f8) = true)
    {f9 : Addr} {od9 an9 : Option Addr} {sl9 : Array (Option Value)} {oc9 kV9 dc9 pm9 cd9 ct9 : Value} (a9 : PySem.W.nsIn K mainGlobals "brings" = some (some (.ref f9))) (l9 : K.lookup f9 = some ⟨oc9, od9, .func (PySem.W.fnOf "brings" "brings" (defArgs sBrings) (defBody sBrings) (defScope sBrings) .none kV9 dc9 pm9 an9 cd9 ct9), sl9⟩) (c9 : PySem.W.codeIn K cd9 "brings" = true) (k9 : PySem.W.keepIn K (.ref f9) = true)
    {tgMOST_TOWERS : Nat} (aMOST_TOWERS : PySem.W.nsIn K mainGlobals "MOST_TOWERS" = some (some (.int 4 tgMOST_TOWERS)))
    {tgREFUSED : Nat} (aREFUSED : PySem.W.nsIn K mainGlobals "REFUSED" = some (some (.int (-22) tgREFUSED)))
    (zrange : PySem.W.nsIn K mainGlobals "range" = some none)
    (zlen : PySem.W.nsIn K mainGlobals "len" = some none)
    (zsorted : PySem.W.nsIn K mainGlobals "sorted" = some none)
    (zset : PySem.W.nsIn K mainGlobals "set" = some none)
    : ∃ fd : FuncData, (∀ (s : Shared) (us : List Value), us.length = (["n", "s", "t"] : List Str).length → BindsTo s fd ⟨us, []⟩ ((["n", "s", "t"] : List Str).zip us)) ∧ ∀ base : Heap, K.In base → base.Ns mainGlobals mg → FnOk P w K mg base CX0 4 fa fd ["n", "s", "t"] (spBrings K) := by
  have e := hfa.symm.trans (PySem.W.mg_of X G a9)
  cases e
  have F0 := fun_mk (st := sPow) l0 c0 k0
  have F1 := fun_mk (st := sTow) l1 c1 k1
  have F2 := fun_mk (st := sState) l2 c2 k2
  have F3 := fun_mk (st := sBegin) l3 c3 k3
  have F4 := fun_mk (st := sNow) l4 c4 k4
  have F5 := fun_mk (st := sFlag) l5 c5 k5
  have F6 := fun_mk (st := sAlone) l6 c6 k6
  have F7 := fun_mk (st := sPass) l7 c7 k7
  have F8 := fun_mk (st := sOrders) l8 c8 k8
  have F9 := fun_mk (st := sBrings) l9 c9 k9
  have gMOST_TOWERS := PySem.W.mg_of X G aMOST_TOWERS
  have gREFUSED := PySem.W.mg_of X G aREFUSED
  have m_range := PySem.W.mg_none_of X G zrange
  have m_len := PySem.W.mg_none_of X G zlen
  have m_sorted := PySem.W.mg_none_of X G zsorted
  have m_set := PySem.W.mg_none_of X G zset
  refine ⟨PySem.W.fnOf "brings" "brings" (defArgs sBrings) (defBody sBrings) (defScope sBrings) .none kV9 dc9 pm9 an9 cd9 ct9, fun s us hu => match us, hu with | [_, _, _], _ => .of_eq rfl, fun base _ _ => ?_⟩
  have OPow : Ok P w K mg base 1 "power_of_two" sPow ["exponent"] f0 _ (spPow K) := ⟨F0, F0.binds (ps := ["exponent"]) (fun _ _ _ _ _ _ us hl => match us, hl with | [_], _ => rfl), PySem.W.mg_of X G a0, ok_Pow F0 m_range⟩
  have OTow : Ok P w K mg base 2 "are_towers" sTow ["n", "t"] f1 _ (spTow K) := ⟨F1, F1.binds (ps := ["n", "t"]) (fun _ _ _ _ _ _ us hl => match us, hl with | [_, _], _ => rfl), PySem.W.mg_of X G a1, ok_Tow F1 OPow m_len gMOST_TOWERS⟩
  have OState : Ok P w K mg base 2 "is_state" sState ["n", "s"] f2 _ (spState K) := ⟨F2, F2.binds (ps := ["n", "s"]) (fun _ _ _ _ _ _ us hl => match us, hl with | [_, _], _ => rfl), PySem.W.mg_of X G a2, ok_State F2 OPow⟩
  have OBegin : Ok P w K mg base 3 "may_begin" sBegin ["n", "s", "t"] f3 _ (spBegin K) := ⟨F3, F3.binds (ps := ["n", "s", "t"]) (fun _ _ _ _ _ _ us hl => match us, hl with | [_, _, _], _ => rfl), PySem.W.mg_of X G a3, ok_Begin F3 OTow OState⟩
  have ONow : Ok P w K mg base 1 "flag_now" sNow ["state", "tower"] f4 _ (spNow K) := ⟨F4, F4.binds (ps := ["state", "tower"]) (fun _ _ _ _ _ _ us hl => match us, hl with | [_, _], _ => rfl), PySem.W.mg_of X G a4, ok_Now F4⟩
  have OFlag : Ok P w K mg base 1 "flag_next" sFlag ["rule", "state"] f5 _ (spFlag K) := ⟨F5, F5.binds (ps := ["rule", "state"]) (fun _ _ _ _ _ _ us hl => match us, hl with | [_, _], _ => rfl), PySem.W.mg_of X G a5, ok_Flag F5⟩
  have OAlone : Ok P w K mg base 2 "alone" sAlone ["t", "tower", "state"] f6 _ (spAlone K) := ⟨F6, F6.binds (ps := ["t", "tower", "state"]) (fun _ _ _ _ _ _ us hl => match us, hl with | [_, _, _], _ => rfl), PySem.W.mg_of X G a6, ok_Alone F6 OPow ONow OFlag⟩
  have OPass : Ok P w K mg base 3 "one_pass" sPass ["t", "order", "state"] f7 _ (spPass K) := ⟨F7, F7.binds (ps := ["t", "order", "state"]) (fun _ _ _ _ _ _ us hl => match us, hl with | [_, _, _], _ => rfl), PySem.W.mg_of X G a7, ok_Pass F7 OAlone⟩
  have OOrders : Ok P w K mg base 1 "all_orders" sOrders ["n"] f8 _ (spOrders K) := ⟨F8, F8.binds (ps := ["n"]) (fun _ _ _ _ _ _ us hl => match us, hl with | [_], _ => rfl), PySem.W.mg_of X G a8, ok_Orders F8 m_range⟩
  exact ok_Brings F9 OBegin OPass OOrders m_sorted m_set m_len gREFUSED
theorem due (n s : Int) (t : List Int) : PyKzk3.brings n s t = brought n.toNat s.toNat (t.map Int.toNat) := by
  show (let a := (if Kzk1.good n.toNat s.toNat (t.map Int.toNat) = false then Kzk1.say (-22) else Kzk1.told (Kzk3.brings n.toNat (t.map Int.toNat) s.toNat)); a.value :: Kzk3Neutral.ints a.nums) = _
  unfold brought
  split
  · rfl
  · rfl
end Kz
open PySem PySem.W PyProof.Rows
set_option maxRecDepth 100000 in
set_option maxHeartbeats 0 in
theorem PySem.Challenge.cw_towersrest_s05_brings_holds : PySem.Challenge.rw_towersrest_s05_brings.Holds := by
  w_on; k_headS; (case hw => exact ⟨[.int 0, .int 0, .list []], by decide +kernel, by decide +kernel⟩)
  k_fillS
  refine L2.walk_specK (r := PySem.Challenge.rw_towersrest_s05_brings) (k := 4) (CX := L2.CX0) (ps := ["n", "s", "t"]) (sp := Kz.spBrings) (by decide +kernel) rfl rfl ⟨rfl, by decide, by decide⟩ (fun w h Y => PySem.W.kIn_of Y) ?F ?S (fun _ _ _ _ z => z)
  case F =>
    intro w mg fa h Y KX G hmg
    refine' Kz.all_mk KX G hmg ?a0 ?l0 ?c0 ?k0 ?a1 ?l1 ?c1 ?k1 ?a2 ?l2 ?c2 ?k2 ?a3 ?l3 ?c3 ?k3 ?a4 ?l4 ?c4 ?k4 ?a5 ?l5 ?c5 ?k5 ?a6 ?l6 ?c6 ?k6 ?a7 ?l7 ?c7 ?k7 ?a8 ?l8 ?c8 ?k8 ?a9 ?l9 ?c9 ?k9 ?aMOST_TOWERS ?aREFUSED ?zrange ?zlen ?zsorted ?zset
    (case a0 => k_is)
    (case l0 => k_is)
    (case c0 => k_is)
    (case k0 => k_is)
    (case a1 => k_is)
    (case l1 => k_is)
    (case c1 => k_is)
    (case k1 => k_is)
    (case a2 => k_is)
    (case l2 => k_is)
    (case c2 => k_is)
    (case k2 => k_is)
    (case a3 => k_is)
    (case l3 => k_is)
    (case c3 => k_is)
    (case k3 => k_is)
    (case a4 => k_is)
    (case l4 => k_is)
    (case c4 => k_is)
    (case k4 => k_is)
    (case a5 => k_is)
    (case l5 => k_is)
    (case c5 => k_is)
    (case k5 => k_is)
    (case a6 => k_is)
    (case l6 => k_is)
    (case c6 => k_is)
    (case k6 => k_is)
    (case a7 => k_is)
    (case l7 => k_is)
    (case c7 => k_is)
    (case k7 => k_is)
    (case a8 => k_is)
    (case l8 => k_is)
    (case c8 => k_is)
    (case k8 => k_is)
    (case a9 => k_is)
    (case l9 => k_is)
    (case c9 => k_is)
    (case k9 => k_is)
    (case aMOST_TOWERS => k_is)
    (case aREFUSED => k_is)
    (case zrange => k_is)
    (case zlen => k_is)
    (case zsorted => k_is)
    (case zset => k_is)
  case S =>
    intro K H xs a hO hwi hask hx
    cases hx with
    | cons h1 h2 =>
      cases h1
      cases h2 with
      | cons h2 h3 =>
        cases h2
        cases h3 with
        | cons h3 h4 =>
          cases h4
          cases h3 with
          | lst hs ha =>
            have e := L2.ints_dw a.2.2.1 _ ha
            subst e
            have q : (Codec.inInt 0 4294967295 a.1 && (Codec.inInt 0 4294967295 a.2.1 && ((Codec.inLen 0 10 a.2.2.1 && a.2.2.1.all (Codec.inInt 0 65535)) && true))) = true := hwi
            simp only [Bool.and_eq_true] at q
            have q1 : 0 ≤ a.1 := (Codec.inInt_iff.mp q.1).1
            have q2 : 0 ≤ a.2.1 := (Codec.inInt_iff.mp q.2.1).1
            have q3 : ∀ x ∈ a.2.2.1, 0 ≤ x := fun x hx => (Codec.inInt_iff.mp (List.all_eq_true.mp q.2.2.1.2 x hx)).1
            rw [Kz.nv_of _ q3] at hs
            refine ⟨_, a.1.toNat, a.2.1.toNat, a.2.2.1.map Int.toNat, ?_, hs, fun H' p hp => ?_⟩
            · rw [Int.toNat_of_nonneg q1, Int.toNat_of_nonneg q2]
            · rw [← Kz.due] at hp
              exact .lst (L2.SqL.of hp) (L2.dw_ints _)
#print axioms PySem.Challenge.cw_towersrest_s05_brings_holds
