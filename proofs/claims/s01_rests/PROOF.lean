import PyProof.Rows.All
import Wide.All
import OpenK.AllK
import Wide.FinOn
import Open.SpecLaws
import KE.OsHead
import KE.OsGo
import HandS.ForSpec
import HandS.Comp
import HandS.WideBits
import PySem.Challenge.RW_towersrest_s01_rests
set_option Elab.async false
set_option maxRecDepth 100000
set_option maxHeartbeats 2000000
namespace Kz
open PySem PySem.Spec PyProof.Rows L2
open PySem.W (Codec)
/-! ### 1. numbers and lists -/
def nv (t : List Nat) : List V := t.map fun (x : Nat) => V.int (x : Int)
theorem nv_len (t : List Nat) : (nv t).length = t.length := by
  unfold nv
  rw [List.length_map]
theorem nv_get {t : List Nat} {i : Nat} {x : V} (h : (nv t)[i]? = some x) : ∃ r : Nat, t[i]? = some r ∧ x = V.int (r : Int) := by
  unfold nv at h
  rw [List.getElem?_map] at h
  cases e : t[i]? with
  | none =>
    rw [e] at h
    cases h
  | some r =>
    rw [e] at h
    exact ⟨r, rfl, (Option.some.inj h).symm⟩
theorem nv_snoc (t : List Nat) (x : Nat) : nv (t ++ [x]) = nv t ++ [V.int (x : Int)] := by
  unfold nv
  rw [List.map_append]
  rfl
theorem nv_of : ∀ ns : List Int, (∀ x ∈ ns, 0 ≤ x) → ns.map V.int = nv (ns.map Int.toNat)
  | [], _ => rfl
  | x :: r, h => by
    have h1 := h x (List.mem_cons_self ..)
    have ih := nv_of r fun y hy => h y (List.mem_cons_of_mem _ hy)
    show V.int x :: r.map V.int = V.int ((x.toNat : Nat) : Int) :: nv (r.map Int.toNat)
    rw [ih, Int.toNat_of_nonneg h1]
theorem take_snoc {α : Type} : ∀ {l : List α} {i : Nat} {x : α}, l[i]? = some x → l.take (i + 1) = l.take i ++ [x]
  | [], i, x, h => by simp at h
  | a :: l, 0, x, h => by
    have e : a = x := Option.some.inj h
    subst e
    rfl
  | a :: l, i + 1, x, h => by
    have ih := take_snoc (l := l) (i := i) (x := x) h
    show a :: l.take (i + 1) = a :: l.take i ++ [x]
    rw [ih]
    rfl
theorem next_succ (i : Nat) (t : List Nat) (s : Nat) : Kzk1.next (i + 1) t s = Kzk1.next i t s + (if Kzk1.isUp t i s then 2 ^ i else 0) := by
  unfold Kzk1.next Kzk1.make Kzk1.sum
  rw [List.range_succ, List.map_append, List.foldl_append]
  rfl
theorem flag_is {t : List Nat} {i r s : Nat} (h : t[i]? = some r) : (r / 2 ^ s % 2) * 2 ^ i = if Kzk1.isUp t i s then 2 ^ i else 0 := by
  unfold Kzk1.isUp Kzk1.bit
  rw [List.getD_eq_getElem?_getD, h]
  show (r / 2 ^ s % 2) * 2 ^ i = if (r / 2 ^ s % 2 == 1) = true then 2 ^ i else 0
  rcases Nat.mod_two_eq_zero_or_one (r / 2 ^ s) with e | e
  · rw [e]
    simp
  · rw [e]
    simp
theorem okT_n {n : Nat} {t : List Nat} (h : n < 1 ∨ 4 < n) : Kzk1.okTowers n t = false := by
  unfold Kzk1.okTowers
  rcases h with h | h
  · rw [decide_eq_false (by omega : ¬ 1 ≤ n)]
    rfl
  · rw [decide_eq_false (by omega : ¬ n ≤ 4), Bool.and_false]
    rfl
theorem okT_iff {n : Nat} {t : List Nat} : Kzk1.okTowers n t = true ↔ (1 ≤ n ∧ n ≤ 4 ∧ t.length = n ∧ ∀ r ∈ t, r < 2 ^ 2 ^ n) := by
  unfold Kzk1.okTowers
  simp only [Bool.and_eq_true, decide_eq_true_eq, beq_iff_eq, List.all_eq_true, and_assoc]
theorem okT_false {n : Nat} {t : List Nat} (h : ¬ (1 ≤ n ∧ n ≤ 4 ∧ t.length = n ∧ ∀ r ∈ t, r < 2 ^ 2 ^ n)) : Kzk1.okTowers n t = false := by
  cases e : Kzk1.okTowers n t with
  | false => rfl
  | true => exact absurd (okT_iff.mp e) h
theorem pow_le {n : Nat} (h : n ≤ 4) : 2 ^ n ≤ 16 := Nat.pow_le_pow_right (by decide) h
/-! ### 2. the text -/
def top (i : Nat) : Stmt := PySem.Challenge.pw_towersrest_s01_rests.main.body.getD i (.Pass ⟨0, 0, 0, 0⟩)
abbrev sPow : Stmt := top 3
abbrev sTow : Stmt := top 4
abbrev sFlag : Stmt := top 5
abbrev sOnce : Stmt := top 6
abbrev sRests : Stmt := top 7
theorem scPow : FnScope ["exponent", "power", "step"] ["exponent"] (defScope sPow) := ⟨rfl, rfl, rfl, by decide +kernel, rfl, by decide +kernel, by decide +kernel⟩
theorem scTow : FnScope ["n", "t", "limit", "rule"] ["n", "t"] (defScope sTow) := ⟨rfl, rfl, rfl, by decide +kernel, rfl, by decide +kernel, by decide +kernel⟩
theorem scFlag : FnScope ["rule", "state"] ["rule", "state"] (defScope sFlag) := ⟨rfl, rfl, rfl, by decide +kernel, rfl, by decide +kernel, by decide +kernel⟩
theorem scOnce : FnScope ["t", "state", "brought", "weight", "rule"] ["t", "state"] (defScope sOnce) := ⟨rfl, rfl, rfl, by decide +kernel, rfl, by decide +kernel, by decide +kernel⟩
theorem scRests : FnScope ["n", "t", "resting", "state"] ["n", "t"] (defScope sRests) := ⟨rfl, rfl, rfl, by decide +kernel, rfl, by decide +kernel, by decide +kernel⟩
/-! ### 3. the promises -/
def spPow : Sp := fun vs H Q _ => ∃ e : Nat, vs = [.int (e : Int)] ∧ e ≤ 1000 ∧ Q (.int ((2 ^ e : Nat) : Int)) H
def spTow (K : PySem.W.Frag) : Sp := fun vs H Q _ => ∃ (a : Addr) (n : Nat) (t : List Nat), vs = [.int (n : Int), .ref a] ∧ SqL K H a (nv t) ∧ Q (.bl (Kzk1.okTowers n t)) H
def spFlag : Sp := fun vs H Q _ => ∃ r s : Nat, vs = [.int (r : Int), .int (s : Int)] ∧ Q (.int ((r / 2 ^ s % 2 : Nat) : Int)) H
def spOnce (K : PySem.W.Frag) : Sp := fun vs H Q _ => ∃ (a : Addr) (s : Nat) (t : List Nat), vs = [.ref a, .int (s : Int)] ∧ SqL K H a (nv t) ∧ Q (.int ((Kzk1.next t.length t s : Nat) : Int)) H
def spRests (K : PySem.W.Frag) : Sp := fun vs H Q _ => ∃ (a : Addr) (n : Nat) (t : List Nat), vs = [.int (n : Int), .ref a] ∧ SqL K H a (nv t) ∧
  ∀ (H' : Hp) (p : Addr), H' p = some (.lst ((if Kzk1.okTowers n t = false then [(-22 : Int)] else ((Kzk3.rests n t).length : Int) :: (Kzk3.rests n t).map fun (x : Nat) => (x : Int)).map V.int)) → Q (.ref p) H'
section
variable {P : Program} {w : World} {K : PySem.W.Frag} {mg : Str → Option Value} {base : Heap}
/-! ### 4. the defs -/
theorem ok_pow {f : Addr} {fd : FuncData} {k : Nat} (F : Fun K "power_of_two" "power_of_two" sPow f fd) (mr : mg "range" = none) : FnOk P w K mg base CX0 (k + 1) f fd ["exponent"] spPow := by
  refine F.ok scPow (fun vs H Q E h => ?_) (fun cdv A outer s H vs Q E hr h => ?_)
  · obtain ⟨e, rfl, _⟩ := h
    rfl
  · obtain ⟨e, rfl, he, q⟩ := h
    refine ⟨_, pss_cons (ps_set (i := 1) scPow.nd rfl (.inl rfl) pe_int)
      (pss_cons (ps_for PassesOwn.never rfl (pi_range1 (by rfl) mr (pa_cons (pv 0) pa_nil)) (pg_name (i := 2) scPow.nd rfl (.inl rfl))
        (pss_one (ps_set (i := 1) scPow.nd rfl (.inl rfl) (pe_op op_mul (pv 1) pe_int))))
      (pss_one (ps_ret (pv 1)))), ?_⟩
    refine ⟨_, rfl, (e : Int), rfl, by omega, by omega, for_range (lo := 0) (n := (e : Int).toNat) (fun i σ H' => ∃ v : Option V, σ = [some (.int (e : Int)), some (.int ((2 ^ i : Nat) : Int)), v] ∧ H = H') ⟨none, rfl, rfl⟩ ?_ ?_⟩
    · rintro i σ H' hi ⟨v, rfl, rfl⟩
      refine ⟨_, rfl, _, _, rfl, rfl, .inr ⟨by decide, by decide⟩, some (.int (0 + (i : Int))), ?_, rfl⟩
      rw [Nat.pow_succ, Int.natCast_mul]
      rfl
    · rintro σ H' ⟨v, rfl, rfl⟩
      rw [Int.toNat_natCast]
      exact ⟨_, rfl, q⟩
theorem ok_tow {f fP : Addr} {fd fdP : FuncData} (F : Fun K "are_towers" "are_towers" sTow f fd) (FP : Fun K "power_of_two" "power_of_two" sPow fP fdP) (bP : Binds K fdP ["exponent"] []) (gP : mg "power_of_two" = some (.ref fP))
    (mr : mg "range" = none) (ml : mg "len" = none) {tg : Nat} (gM : mg "MOST_TOWERS" = some (.int 4 tg)) : FnOk P w K mg base CX0 2 f fd ["n", "t"] (spTow K) := by
  have GP : FnOk P w K mg base CX0 1 fP fdP ["exponent"] spPow := ok_pow FP mr
  refine F.ok scTow (fun vs H Q E h => ?_) (fun cdv A outer s H vs Q E hr h => ?_)
  · obtain ⟨a, n, t, rfl, _⟩ := h
    rfl
  · obtain ⟨a, n, t, rfl, hS, q⟩ := h
    refine ⟨_, pss_cons (ps_if (PW.pt (pw_or (pt_cmpR op_lt (pv 0) pe_int (nomark _)) (pw_or1 (pt_cmpR op_gt (pv 0) (pe_glob (v := V.int 4) rfl gM ⟨_, rfl⟩) (nomark _))))) (pss_one (ps_ret pe_bl)) pss_nil)
      (pss_cons (ps_if (pt_cmpR op_ne (pe_callB call_len_seq (by rfl) ml PySem.boot_len (pa_cons (pv 1) pa_nil)) (pv 0) (nomark _)) (pss_one (ps_ret pe_bl)) pss_nil)
      (pss_cons (ps_set (i := 2) scTow.nd rfl (.inl rfl) (pe_call GP hr rfl gP FP.kp bP .nil pass0 (pa_cons (pe_call GP hr rfl gP FP.kp bP .nil pass0 (pa_cons (pv 0) pa_nil)) pa_nil)))
      (pss_cons (ps_for PassesOwn.never rfl (pi_list (pv 1)) (pg_name (i := 3) scTow.nd rfl (.inl rfl))
        (pss_one (ps_if (PW.pt (pw_or (pt_cmpR op_lt (pv 3) pe_int (nomark _)) (pw_or1 (pt_cmpR op_ge (pv 3) (pv 2) (nomark _))))) (pss_one (ps_ret pe_bl)) pss_nil)))
      (pss_one (ps_ret pe_bl))))), ?_⟩
    have no : ∀ {H' : Hp}, H = H' → ¬ (1 ≤ n ∧ n ≤ 4 ∧ t.length = n ∧ ∀ r ∈ t, r < 2 ^ 2 ^ n) → Q (.bl false) H' := fun e z => by
      rw [okT_false z] at q
      rw [← e]
      exact q
    refine ⟨_, rfl, _, _, rfl, rfl, _, rfl, ite2 (fun e => iteT ?_) (fun e1 => ⟨_, rfl, _, _, rfl, rfl, _, rfl, ite2 (fun e => ?_) (fun e2 => ?_)⟩)⟩
    · have h := of_decide_eq_true e
      exact no rfl (by omega)
    · have h := of_decide_eq_true e
      exact no rfl (by omega)
    · have h1 : ¬ (n : Int) < 1 := fun z => e1 (decide_eq_true z)
      have h2 : ¬ (4 : Int) < (n : Int) := fun z => e2 (decide_eq_true z)
      refine ⟨.ref a, rfl, a, nv t, rfl, .inl hS, _, rfl, rfl, _, rfl, ite2 (fun e => ?_) (fun e3 => ?_)⟩
      · refine no rfl fun z => ?_
        rw [Bool.not_eq_true'] at e
        have h := of_decide_eq_false e
        rw [nv_len, z.2.2.1] at h
        exact h rfl
      · have h3 : t.length = n := by
          by_cases z : t.length = n
          · exact z
          · refine absurd ?_ e3
            rw [Bool.not_eq_true']
            refine decide_eq_false fun u => z ?_
            have u2 := V.int.inj u
            rw [nv_len] at u2
            omega
        have h4 : n ≤ 4 := by omega
        have h5 : 2 ^ n ≤ 16 := pow_le h4
        refine ⟨_, rfl, n, rfl, by omega, 2 ^ n, rfl, by omega, ?_⟩
        refine ⟨_, rfl, a, rfl, ⟨_, hS⟩, for_list (K := K) (a := a) (xs := nv t) (fun i σ H' => ∃ v : Option V, σ = [some (.int (n : Int)), some (.ref a), some (.int ((2 ^ 2 ^ n : Nat) : Int)), v] ∧ H = H' ∧ ∀ r ∈ t.take i, r < 2 ^ 2 ^ n)
          ⟨none, rfl, rfl, fun r hr => by simp at hr⟩ (fun i σ H' _ ⟨_, _, z, _⟩ => by rw [← z]; exact hS) ?_ ?_⟩
        · rintro i y σ H' hi ⟨v, rfl, rfl, hb⟩
          obtain ⟨r, hr2, rfl⟩ := nv_get hi
          refine ⟨_, rfl, _, _, rfl, rfl, _, rfl, ite2 (fun e => ?_) (fun e4 => ⟨_, rfl, _, rfl, _, _, rfl, rfl, _, rfl, ite2 (fun e => ?_) (fun e5 => ?_)⟩)⟩
          · have h := of_decide_eq_true e
            omega
          · have h := of_decide_eq_true e
            refine no rfl fun z => ?_
            have h6 := z.2.2.2 r (List.mem_of_getElem? hr2)
            omega
          · refine ⟨some (.int (r : Int)), rfl, rfl, fun x hx => ?_⟩
            rw [take_snoc hr2] at hx
            rcases List.mem_append.mp hx with hx | hx
            · exact hb x hx
            · rw [List.mem_singleton] at hx
              subst hx
              have h6 : ¬ ((2 ^ 2 ^ n : Nat) : Int) ≤ (x : Int) := fun z => e5 (decide_eq_true z)
              omega
        · rintro σ H' ⟨v, rfl, rfl, hb⟩
          rw [nv_len, List.take_length] at hb
          have z : Kzk1.okTowers n t = true := okT_iff.mpr ⟨by omega, h4, h3, hb⟩
          rw [z] at q
          exact q
theorem ok_flag {f : Addr} {fd : FuncData} {k : Nat} (F : Fun K "flag_next" "flag_next" sFlag f fd) : FnOk P w K mg base CX0 (k + 1) f fd ["rule", "state"] spFlag := by
  refine F.ok scFlag (fun vs H Q E h => ?_) (fun cdv A outer s H vs Q E hr h => ?_)
  · obtain ⟨r, s, rfl, _⟩ := h
    rfl
  · obtain ⟨r, st, rfl, q⟩ := h
    refine ⟨_, pss_one (ps_ret (pe_op op_odd (pe_op op_shrN (pv 0) (pv 1)) pe_int)), ?_⟩
    refine ⟨_, rfl, _, rfl, (r : Int), st, rfl, rfl, r / 2 ^ st, ?_, rfl, q⟩
    refine congrArg V.int ?_
    rw [Int.natCast_ediv, Int.natCast_pow]
    rfl
theorem ok_once {f fF : Addr} {fd fdF : FuncData} (F : Fun K "all_at_once" "all_at_once" sOnce f fd) (FF : Fun K "flag_next" "flag_next" sFlag fF fdF) (bF : Binds K fdF ["rule", "state"] []) (gF : mg "flag_next" = some (.ref fF)) :
    FnOk P w K mg base CX0 2 f fd ["t", "state"] (spOnce K) := by
  have GF : FnOk P w K mg base CX0 1 fF fdF ["rule", "state"] spFlag := ok_flag FF
  refine F.ok scOnce (fun vs H Q E h => ?_) (fun cdv A outer s H vs Q E hr h => ?_)
  · obtain ⟨a, s, t, rfl, _⟩ := h
    rfl
  · obtain ⟨a, st, t, rfl, hS, q⟩ := h
    refine ⟨_, pss_cons (ps_set (i := 2) scOnce.nd rfl (.inl rfl) pe_int)
      (pss_cons (ps_set (i := 3) scOnce.nd rfl (.inl rfl) pe_int)
      (pss_cons (ps_for PassesOwn.never rfl (pi_list (pv 0)) (pg_name (i := 4) scOnce.nd rfl (.inl rfl))
        (pss_cons (ps_set (i := 2) scOnce.nd rfl (.inl rfl) (pe_op op_add (pv 2) (pe_op op_mul (pe_call GF hr rfl gF FF.kp bF .nil pass0 (pa_cons (pv 4) (pa_cons (pv 1) pa_nil))) (pv 3))))
        (pss_one (ps_set (i := 3) scOnce.nd rfl (.inl rfl) (pe_op op_mul (pv 3) pe_int)))))
      (pss_one (ps_ret (pv 2))))), ?_⟩
    refine ⟨_, rfl, a, rfl, ⟨_, hS⟩, for_list (K := K) (a := a) (xs := nv t) (fun i σ H' => ∃ v : Option V, σ = [some (.ref a), some (.int (st : Int)), some (.int ((Kzk1.next i t st : Nat) : Int)), some (.int ((2 ^ i : Nat) : Int)), v] ∧ H = H')
      ⟨none, rfl, rfl⟩ (fun i σ H' _ ⟨_, _, z⟩ => by rw [← z]; exact hS) ?_ ?_⟩
    · rintro i y σ H' hi ⟨v, rfl, rfl⟩
      obtain ⟨r, hr2, rfl⟩ := nv_get hi
      refine ⟨_, rfl, _, rfl, _, rfl, r, st, rfl, _, rfl, _, _, rfl, rfl, .inl ⟨by omega, by omega⟩, _, _, rfl, rfl, ?_⟩
      refine ⟨_, rfl, _, _, rfl, rfl, .inr ⟨by decide, by decide⟩, some (.int (r : Int)), ?_, rfl⟩
      rw [next_succ, ← flag_is hr2, Nat.pow_succ, Int.natCast_add, Int.natCast_mul, Int.natCast_mul]
      rfl
    · rintro σ H' ⟨v, rfl, rfl⟩
      rw [nv_len]
      exact ⟨_, rfl, q⟩
def rest (n : Nat) (t : List Nat) (i : Nat) : List Nat := (List.range i).filter fun s => Kzk1.next n t s == s
theorem rest_len (n : Nat) (t : List Nat) (i : Nat) : (rest n t i).length ≤ i := by
  unfold rest
  exact Nat.le_trans (List.length_filter_le _ _) (Nat.le_of_eq List.length_range)
theorem rest_yes {n : Nat} {t : List Nat} {i : Nat} (h : Kzk1.next n t i = i) : rest n t (i + 1) = rest n t i ++ [i] := by
  unfold rest
  rw [List.range_succ, List.filter_append, List.filter_cons, if_pos (by rw [h]; exact beq_self_eq_true i), List.filter_nil]
theorem rest_no {n : Nat} {t : List Nat} {i : Nat} (h : ¬ Kzk1.next n t i = i) : rest n t (i + 1) = rest n t i := by
  unfold rest
  rw [List.range_succ, List.filter_append, List.filter_cons, if_neg (by intro e; exact h (eq_of_beq e)), List.filter_nil, List.append_nil]
theorem same_upd {H : Hp} {p : Addr} {o : HO} (h : H p = none) : Same H (upd H p o) := fun b x e => by
  rw [upd_ne (ne_of_none e h)]
  exact e
theorem same_upd2 {H H' : Hp} {p : Addr} {o : HO} (h : H p = none) (s : Same H H') : Same H (upd H' p o) := fun b x e => by
  rw [upd_ne (ne_of_none e h)]
  exact s b x e
theorem ok_rests {f fP fT fF fO : Addr} {fd fdP fdT fdF fdO : FuncData} (F : Fun K "rests" "rests" sRests f fd) (FP : Fun K "power_of_two" "power_of_two" sPow fP fdP) (bP : Binds K fdP ["exponent"] []) (gP : mg "power_of_two" = some (.ref fP))
    (FT : Fun K "are_towers" "are_towers" sTow fT fdT) (bT : Binds K fdT ["n", "t"] []) (gT : mg "are_towers" = some (.ref fT))
    (FF : Fun K "flag_next" "flag_next" sFlag fF fdF) (bF : Binds K fdF ["rule", "state"] []) (gF : mg "flag_next" = some (.ref fF))
    (FO : Fun K "all_at_once" "all_at_once" sOnce fO fdO) (bO : Binds K fdO ["t", "state"] []) (gO : mg "all_at_once" = some (.ref fO))
    (mr : mg "range" = none) (ml : mg "len" = none) {tg tg2 : Nat} (gM : mg "MOST_TOWERS" = some (.int 4 tg)) (gR : mg "REFUSED" = some (.int (-22) tg2)) : FnOk P w K mg base CX0 3 f fd ["n", "t"] (spRests K) := by
  have GP : FnOk P w K mg base CX0 1 fP fdP ["exponent"] spPow := ok_pow FP mr
  have GT : FnOk P w K mg base CX0 2 fT fdT ["n", "t"] (spTow K) := ok_tow FT FP bP gP mr ml gM
  have GO : FnOk P w K mg base CX0 2 fO fdO ["t", "state"] (spOnce K) := ok_once FO FF bF gF
  refine F.ok scRests (fun vs H Q E h => ?_) (fun cdv A outer s H vs Q E hr h => ?_)
  · obtain ⟨a, n, t, rfl, _⟩ := h
    rfl
  · obtain ⟨a, n, t, rfl, hS, q⟩ := h
    have hr1 : Room 1 _ := hr.mono (by decide)
    refine ⟨_, pss_cons (ps_if (pt_not (pt_val (pe_call GT hr rfl gT FT.kp bT .nil pass0 (pa_cons (pv 0) (pa_cons (pv 1) pa_nil))))) (pss_one (ps_ret (pe_lst (pa_cons (pe_glob (v := V.int (-22)) rfl gR ⟨_, rfl⟩) pa_nil)))) pss_nil)
      (pss_cons (ps_setLc (i := 2) (own := [("state", 3)]) (g := gName 3) (by rfl) scRests.nd rfl rfl (sw_true rfl rfl rfl (by decide +kernel))
          (pi_range1 (by rfl) mr (pa_cons (pe_call GP hr1 rfl gP FP.kp bP .nil pass0 (pa_cons (pv 0) pa_nil)) pa_nil))
          (blkOk_by (own := [("state", 3)]) (N := ["n", "t", "resting", "state"]) (sc := defScope sRests) (by decide +kernel))
          (fun _ _ _ _ _ => pg_name (i := 3) scRests.nd rfl (Or.inl rfl))
          (fun _ _ _ _ _ => pts_one (pt_cmpR op_eq (pe_call GO hr rfl gO FO.kp bO .nil pass0 (pa_cons (pv 1) (pa_cons (pv 3) pa_nil))) (pv 3) (nomark _)))
          (fun _ _ _ _ _ => pv 3))
      (pss_one (ps_ret (pe_op op_cat (pe_lst (pa_cons (pe_callB call_len_seq (by rfl) ml PySem.boot_len (pa_cons (pv 2) pa_nil)) pa_nil)) (pv 2))))), ?_⟩
    refine ⟨_, rfl, _, rfl, a, n, t, rfl, hS, _, rfl, ?_⟩
    cases hok : Kzk1.okTowers n t with
    | false =>
      refine iteT ⟨(by show 1 ≤ sizeLine; decide), fun p hp => ?_⟩
      refine q _ p ?_
      rw [upd_same, hok]
      rfl
    | true =>
      refine iteF ?_
      obtain ⟨h1, h2, h3, h4⟩ := okT_iff.mp hok
      have h5 : 2 ^ n ≤ 16 := pow_le h2
      have h6 : (0 : Int) ≤ ((2 ^ n : Nat) : Int) := Int.natCast_nonneg _
      refine ⟨_, rfl, n, rfl, by omega, ((2 ^ n : Nat) : Int), rfl, Int.le_trans (by decide) h6, by omega, fun D hD => lc_range (lo := 0) (n := ((2 ^ n : Nat) : Int).toNat) (fun i H' => Same H H' ∧ H' D = some (.lst (nv (rest n t i)))) ⟨same_upd hD, upd_same⟩ ?_ ?_⟩
      · rintro i H' hi ⟨sm, hD'⟩
        rw [Int.toNat_natCast] at hi
        refine ⟨rfl, _, rfl, _, rfl, a, i, t, ?_, sm.seq hS, _, rfl, rfl, _, rfl, ?_⟩
        · rw [Int.zero_add]
          rfl
        · rw [h3, Int.zero_add]
          by_cases z : Kzk1.next n t i = i
          · rw [z, decide_eq_true rfl]
            refine iteT ⟨_, rfl, _, hD', ?_, same_upd2 hD sm, ?_⟩
            · rw [nv_len]
              exact Nat.lt_of_le_of_lt (rest_len n t i) (small1000 (by omega))
            · rw [upd_same, rest_yes z, nv_snoc]
          · rw [decide_eq_false (fun u => z (by have u2 := V.int.inj u; omega))]
            refine iteF ⟨sm, ?_⟩
            rw [rest_no z]
            exact hD'
      · rintro H' ⟨sm, hD'⟩
        rw [Int.toNat_natCast] at hD'
        have hl : (nv (rest n t (2 ^ n))).length ≤ 16 := by
          rw [nv_len]
          exact Nat.le_trans (rest_len n t _) h5
        refine ⟨.ref D, rfl, D, _, rfl, .inl (SqL.of hD'), (by show 1 ≤ sizeLine; decide), fun p hp => ?_⟩
        refine ⟨.ref D, rfl, p, D, _, _, rfl, rfl, upd_same, same_upd hp _ _ hD', ?_, fun r hr => q _ r ?_⟩
        · exact Nat.le_of_lt (small1000 (by show 1 + _ ≤ 1000; omega))
        · rw [upd_same, hok, nv_len]
          show _ = some (HO.lst (((_ : Int) :: _).map V.int))
          rw [List.map_cons, List.map_map]
          rfl
end
theorem all_mk {P : Program} {w : World} {K : PySem.W.Frag} {h : Heap} {mg : Str → Option Value} {fa f1 f2 f3 f4 f5 : Addr} (X : K.In h) (G : h.Ns mainGlobals mg) (hfa : mg "rests" = some (.ref fa))
    {od1 an1 od2 an2 od3 an3 od4 an4 od5 an5 : Option Addr} {sl1 sl2 sl3 sl4 sl5 : Array (Option Value)} {oc1 kV1 dc1 pm1 cd1 ct1 oc2 kV2 dc2 pm2 cd2 ct2 oc3 kV3 dc3 pm3 cd3 ct3 oc4 kV4 dc4 pm4 cd4 ct4 oc5 kV5 dc5 pm5 cd5 ct5 : Value}
    (a1 : PySem.W.nsIn K mainGlobals "power_of_two" = some (some (.ref f1))) (l1 : K.lookup f1 = some ⟨oc1, od1, .func (PySem.W.fnOf "power_of_two" "power_of_two" (defArgs sPow) (defBody sPow) (defScope sPow) .none kV1 dc1 pm1 an1 cd1 ct1), sl1⟩) (c1 : PySem.W.codeIn K cd1 "power_of_two" = true) (k1 : PySem.W.keepIn K (.ref f1) = true)
    (a2 : PySem.W.nsIn K mainGlobals "are_towers" = some (some (.ref f2))) (l2 : K.lookup f2 = some ⟨oc2, od2, .func (PySem.W.fnOf "are_towers" "are_towers" (defArgs sTow) (defBody sTow) (defScope sTow) .none kV2 dc2 pm2 an2 cd2 ct2), sl2⟩) (c2 : PySem.W.codeIn K cd2 "are_towers" = true) (k2 : PySem.W.keepIn K (.ref f2) = true)
    (a3 : PySem.W.nsIn K mainGlobals "flag_next" = some (some (.ref f3))) (l3 : K.lookup f3 = some ⟨oc3, od3, .func (PySem.W.fnOf "flag_next" "flag_next" (defArgs sFlag) (defBody sFlag) (defScope sFlag) .none kV3 dc3 pm3 an3 cd3 ct3), sl3⟩) (c3 : PySem.W.codeIn K cd3 "flag_next" = true) (k3 : PySem.W.keepIn K (.ref f3) = true)
    (a4 : PySem.W.nsIn K mainGlobals "all_at_once" = some (some (.ref f4))) (l4 : K.lookup f4 = some ⟨oc4, od4, .func (PySem.W.fnOf "all_at_once" "all_at_once" (defArgs sOnce) (defBody sOnce) (defScope sOnce) .none kV4 dc4 pm4 an4 cd4 ct4), sl4⟩) (c4 : PySem.W.codeIn K cd4 "all_at_once" = true) (k4 : PySem.W.keepIn K (.ref f4) = true)
    (a5 : PySem.W.nsIn K mainGlobals "rests" = some (some (.ref f5))) (l5 : K.lookup f5 = some ⟨oc5, od5, .func (PySem.W.fnOf "rests" "rests" (defArgs sRests) (defBody sRests) (defScope sRests) .none kV5 dc5 pm5 an5 cd5 ct5), sl5⟩) (c5 : PySem.W.codeIn K cd5 "rests" = true) (k5 : PySem.W.keepIn K (.ref f5) = true)
    {tg tg2 : Nat} (aM : PySem.W.nsIn K mainGlobals "MOST_TOWERS" = some (some (.int 4 tg))) (aR : PySem.W.nsIn K mainGlobals "REFUSED" = some (some (.int (-22) tg2)))
    (z1 : PySem.W.nsIn K mainGlobals "len" = some none) (z2 : PySem.W.nsIn K mainGlobals "range" = some none) :
    ∃ fd : FuncData, (∀ (s : Shared) (us : List Value), us.length = (["n", "t"] : List Str).length → BindsTo s fd ⟨us, []⟩ ((["n", "t"] : List Str).zip us)) ∧ ∀ base : Heap, K.In base → base.Ns mainGlobals mg → FnOk P w K mg base CX0 3 fa fd ["n", "t"] (spRests K) := by
  have e := hfa.symm.trans (PySem.W.mg_of X G a5)
  cases e
  have F1 := fun_mk (st := sPow) l1 c1 k1
  have F2 := fun_mk (st := sTow) l2 c2 k2
  have F3 := fun_mk (st := sFlag) l3 c3 k3
  have F4 := fun_mk (st := sOnce) l4 c4 k4
  have F5 := fun_mk (st := sRests) l5 c5 k5
  have b1 := F1.binds (ps := ["exponent"]) fun _ _ _ _ _ _ us hl => match us, hl with | [_], _ => rfl
  have b2 := F2.binds (ps := ["n", "t"]) fun _ _ _ _ _ _ us hl => match us, hl with | [_, _], _ => rfl
  have b3 := F3.binds (ps := ["rule", "state"]) fun _ _ _ _ _ _ us hl => match us, hl with | [_, _], _ => rfl
  have b4 := F4.binds (ps := ["t", "state"]) fun _ _ _ _ _ _ us hl => match us, hl with | [_, _], _ => rfl
  exact ⟨PySem.W.fnOf "rests" "rests" (defArgs sRests) (defBody sRests) (defScope sRests) .none kV5 dc5 pm5 an5 cd5 ct5, fun s us hu => match us, hu with | [_, _], _ => .of_eq rfl,
    fun base _ _ => ok_rests F5 F1 b1 (PySem.W.mg_of X G a1) F2 b2 (PySem.W.mg_of X G a2) F3 b3 (PySem.W.mg_of X G a3) F4 b4 (PySem.W.mg_of X G a4) (PySem.W.mg_none_of X G z2) (PySem.W.mg_none_of X G z1) (PySem.W.mg_of X G aM) (PySem.W.mg_of X G aR)⟩
theorem due (n : Int) (t : List Int) : PyKzk3.rests n t = if Kzk1.okTowers n.toNat (t.map Int.toNat) = false then [(-22 : Int)] else ((Kzk3.rests n.toNat (t.map Int.toNat)).length : Int) :: (Kzk3.rests n.toNat (t.map Int.toNat)).map fun (x : Nat) => (x : Int) := by
  show (let a := (if Kzk1.okTowers n.toNat (t.map Int.toNat) = false then Kzk1.say (-22) else Kzk1.told (Kzk3.rests n.toNat (t.map Int.toNat))); a.value :: Kzk3Neutral.ints a.nums) = _
  split
  · rfl
  · rfl
end Kz
open PySem PySem.W PyProof.Rows
set_option maxRecDepth 100000 in
set_option maxHeartbeats 0 in
theorem PySem.Challenge.cw_towersrest_s01_rests_holds : PySem.Challenge.rw_towersrest_s01_rests.Holds := by
  w_on; k_headS; (case hw => exact ⟨[.int 0, .list []], by decide +kernel, by decide +kernel⟩)
  k_fillS
  refine L2.walk_specK (r := PySem.Challenge.rw_towersrest_s01_rests) (k := 3) (CX := L2.CX0) (ps := ["n", "t"]) (sp := Kz.spRests) (by decide +kernel) rfl rfl ⟨rfl, by decide, by decide⟩ (fun w h Y => PySem.W.kIn_of Y) ?F ?S (fun _ _ _ _ z => z)
  case F =>
    intro w mg fa h Y KX G hmg
    refine' Kz.all_mk KX G hmg ?a1 ?l1 ?c1 ?k1 ?a2 ?l2 ?c2 ?k2 ?a3 ?l3 ?c3 ?k3 ?a4 ?l4 ?c4 ?k4 ?a5 ?l5 ?c5 ?k5 ?aM ?aR ?z1 ?z2
    (case a1 => k_is); (case l1 => k_is); (case c1 => k_is); (case k1 => k_is)
    (case a2 => k_is); (case l2 => k_is); (case c2 => k_is); (case k2 => k_is)
    (case a3 => k_is); (case l3 => k_is); (case c3 => k_is); (case k3 => k_is)
    (case a4 => k_is); (case l4 => k_is); (case c4 => k_is); (case k4 => k_is)
    (case a5 => k_is); (case l5 => k_is); (case c5 => k_is); (case k5 => k_is)
    (case aM => k_is); (case aR => k_is); (case z1 => k_is); (case z2 => k_is)
  case S =>
    intro K H xs a hO hwi hask hx
    cases hx with
    | cons h1 h2 =>
      cases h1
      cases h2 with
      | cons h2 h3 =>
        cases h3
        cases h2 with
        | lst hs ha =>
          have e := L2.ints_dw a.2.1 _ ha
          subst e
          have q : (Codec.inInt 0 4294967295 a.1 && ((Codec.inLen 0 10 a.2.1 && a.2.1.all (Codec.inInt 0 65535)) && true)) = true := hwi
          rw [Bool.and_eq_true, Bool.and_eq_true, Bool.and_eq_true] at q
          have q1 : 0 ≤ a.1 := (Codec.inInt_iff.mp q.1).1
          have q2 : ∀ x ∈ a.2.1, 0 ≤ x := fun x hx => (Codec.inInt_iff.mp (List.all_eq_true.mp q.2.1.2 x hx)).1
          rw [Kz.nv_of _ q2] at hs
          refine ⟨_, a.1.toNat, a.2.1.map Int.toNat, ?_, hs, fun H' p hp => ?_⟩
          · rw [Int.toNat_of_nonneg q1]
          · rw [← Kz.due] at hp
            exact .lst (L2.SqL.of hp) (L2.dw_ints _)
#print axioms PySem.Challenge.cw_towersrest_s01_rests_holds
