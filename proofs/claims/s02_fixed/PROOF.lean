import PyProof.Rows.All
import Wide.All
import OpenK.AllK
import Wide.FinOn
import Open.SpecLaws
import KE.OsHead
import KE.OsGo
import HandS.Comp
import HandS.ForSpec
import PySem.Challenge.RW_fixedcakes_s02_fixed
set_option Elab.async false
set_option linter.all false
set_option maxRecDepth 100000
set_option maxHeartbeats 4000000
namespace Fc
section
open Kzs2 (places number noOf)
open Kzs3 (okM okMap sent keeps)
abbrev Pl := Kzs2.Place
def cnt (m : Nat) : Nat := (places m).length
theorem okM_iff {m : Nat} : okM m = true ↔ 1 ≤ m ∧ m ≤ 9 := by
  unfold okM Kzs3.most
  rw [Bool.and_eq_true, decide_eq_true_iff, decide_eq_true_iff]
theorem cnt_all : ∀ m : Nat, m < 10 → ((m : Int) + 1) * ((m : Int) + 2) / 2 = ((cnt m : Nat) : Int) := by decide +kernel
theorem cnt_le : ∀ m, m < 10 → cnt m ≤ 55 := by decide +kernel
theorem ix_all : ∀ m : Nat, m < 10 → ∀ j : Nat, j < 10 → ∀ i : Nat, i < 10 → i + j ≤ m → (j : Int) * ((m : Int) + 1) - (j : Int) * ((j : Int) - 1) / 2 + (i : Int) = ((noOf m ⟨i, j⟩ : Nat) : Int) := by decide +kernel
theorem no_lt : ∀ m, m < 10 → ∀ j, j < 10 → ∀ i, i < 10 → i + j ≤ m → noOf m ⟨i, j⟩ < cnt m := by decide +kernel
theorem cnt_int {m : Nat} (h : m ≤ 9) : ((m : Int) + 1) * ((m : Int) + 2) / 2 = ((cnt m : Nat) : Int) := cnt_all m (by omega)
theorem ix_int {m i j : Nat} (h : m ≤ 9) (hp : i + j ≤ m) : (j : Int) * ((m : Int) + 1) - (j : Int) * ((j : Int) - 1) / 2 + (i : Int) = ((noOf m ⟨i, j⟩ : Nat) : Int) := ix_all m (by omega) j (by omega) i (by omega) hp
theorem no_cnt {m : Nat} {p : Pl} (h : m ≤ 9) (hp : p.i + p.j ≤ m) : noOf m p < cnt m := no_lt m (by omega) p.j (by omega) p.i (by omega) hp
theorem okMap_iff {m : Nat} {f : List Nat} : okMap m f = true ↔ f.length = 2 * cnt m ∧ ∀ n, n < cnt m → f.getD (2 * n) 0 + f.getD (2 * n + 1) 0 ≤ m := by
  unfold okMap cnt
  rw [Bool.and_eq_true, beq_iff_eq, List.all_eq_true]
  constructor
  · rintro ⟨h1, h2⟩
    exact ⟨h1, fun n hn => of_decide_eq_true (h2 n (List.mem_range.mpr hn))⟩
  · rintro ⟨h1, h2⟩
    exact ⟨h1, fun n hn => decide_eq_true (h2 n (List.mem_range.mp hn))⟩
theorem sent_ok {m : Nat} {f : List Nat} {p : Pl} (h : m ≤ 9) (ho : okMap m f = true) (hp : p.i + p.j ≤ m) : (sent m f p).i + (sent m f p).j ≤ m :=
  (okMap_iff.mp ho).2 _ (no_cnt h hp)
theorem mem_places {m : Nat} {p : Pl} : p ∈ places m ↔ p.i + p.j ≤ m := by
  unfold places
  rw [List.mem_flatMap]
  constructor
  · rintro ⟨j, hj, h⟩
    obtain ⟨i, hi, rfl⟩ := List.mem_map.mp h
    have := List.mem_range.mp hi
    have := List.mem_range.mp hj
    show i + j ≤ m
    omega
  · intro h
    refine ⟨p.j, List.mem_range.mpr (by omega), List.mem_map.mpr ⟨p.i, List.mem_range.mpr (by omega), rfl⟩⟩
/-- the test of the colour's search -/
def fits (m : Nat) (f : List Nat) (p : Pl) (k : Nat) : Bool := number m p k != 0 && decide (number m (sent m f p) k ≤ number m p k)
def fitting (m : Nat) (f : List Nat) (p : Pl) (n : Nat) : List Nat := (List.range n).filter (fits m f p)
theorem keeps_eq (m : Nat) (f : List Nat) (p : Pl) : keeps m f p = ((List.range 3).find? (fits m f p)).getD 0 := rfl
theorem fit_some {m : Nat} {f : List Nat} {p : Pl} (h1 : 1 ≤ m) (hp : p.i + p.j ≤ m) (hs : (sent m f p).i + (sent m f p).j ≤ m) : ∃ c, c < 3 ∧ fits m f p c = true := by
  by_cases a0 : fits m f p 0 = true
  · exact ⟨0, by omega, a0⟩
  by_cases a1 : fits m f p 1 = true
  · exact ⟨1, by omega, a1⟩
  by_cases a2 : fits m f p 2 = true
  · exact ⟨2, by omega, a2⟩
  exfalso
  unfold fits number at a0 a1 a2
  simp at a0 a1 a2
  omega
theorem fitting_at {m : Nat} {f : List Nat} {p : Pl} (h1 : 1 ≤ m) (hp : p.i + p.j ≤ m) (hs : (sent m f p).i + (sent m f p).j ≤ m) : (fitting m f p 3)[0]? = some (keeps m f p) := by
  rw [← List.head?_eq_getElem?]
  unfold fitting
  rw [List.head?_filter, keeps_eq]
  cases e : (List.range 3).find? (fits m f p) with
  | some c => rfl
  | none =>
    obtain ⟨c, hc, hf⟩ := fit_some h1 hp hs
    exact absurd hf (by simpa using List.find?_eq_none.mp e c (List.mem_range.mpr hc))
theorem fitting_succ (m : Nat) (f : List Nat) (p : Pl) (n : Nat) : fitting m f p (n + 1) = fitting m f p n ++ (if fits m f p n = true then [n] else []) := by
  unfold fitting
  rw [List.range_succ, List.filter_append]
  by_cases h : fits m f p n = true
  · rw [if_pos h, List.filter_cons_of_pos h]; rfl
  · rw [if_neg h, List.filter_cons_of_neg h]; rfl
theorem fitting_len (m : Nat) (f : List Nat) (p : Pl) (n : Nat) : (fitting m f p n).length ≤ n := by
  unfold fitting
  exact Nat.le_trans (List.length_filter_le _ _) (Nat.le_of_eq List.length_range)
/-- the places as the two loops make them: j rows whole, then i places of row j -/
def rowsTo (m j : Nat) : List Pl := (List.range j).flatMap fun j => (List.range (m + 1 - j)).map fun i => ⟨i, j⟩
def partTo (m j i : Nat) : List Pl := rowsTo m j ++ (List.range i).map fun i => ⟨i, j⟩
theorem rowsTo_succ (m j : Nat) : rowsTo m (j + 1) = partTo m j (m + 1 - j) := by
  unfold rowsTo partTo
  rw [List.range_succ, List.flatMap_append]
  rw [List.flatMap_cons, List.flatMap_nil, List.append_nil]
  rfl
theorem partTo_zero (m j : Nat) : partTo m j 0 = rowsTo m j := by
  unfold partTo
  rw [List.range_zero, List.map_nil, List.append_nil]
theorem partTo_succ (m j i : Nat) : partTo m j (i + 1) = partTo m j i ++ [⟨i, j⟩] := by
  unfold partTo
  rw [List.range_succ, List.map_append, List.append_assoc]
  rfl
theorem rowsTo_len (m : Nat) : ∀ j, (rowsTo m j).length ≤ j * (m + 1)
  | 0 => by unfold rowsTo; simp
  | j + 1 => by
    rw [rowsTo_succ]
    unfold partTo
    rw [List.length_append, List.length_map, List.length_range, Nat.succ_mul]
    have := rowsTo_len m j
    omega
theorem partTo_len {m j i : Nat} (hm : m ≤ 9) (hj : j ≤ m) (hi : i ≤ m + 1) : (partTo m j i).length ≤ 100 := by
  unfold partTo
  rw [List.length_append, List.length_map, List.length_range]
  have h := rowsTo_len m j
  have : j * (m + 1) ≤ 9 * 10 := Nat.mul_le_mul (by omega) (by omega)
  omega
theorem take_snoc {α : Type} : ∀ {l : List α} {i : Nat} {x : α}, l[i]? = some x → l.take (i + 1) = l.take i ++ [x]
  | [], i, x, h => by simp at h
  | a :: l, 0, x, h => by
    have e : a = x := Option.some.inj h
    subst e
    rfl
  | a :: l, i + 1, x, h => by
    have ih := take_snoc (l := l) (i := i) (x := x) h
    show a :: l.take (i + 1) = a :: l.take i ++ [x]
    rw [ih]
    rfl
/-! ### the answers -/
def aL (c : Kzs3.Call) : List Int := (Kzs3.answer c).value :: (Kzs3.answer c).nums
def okAll (m : Nat) (f : List Nat) : Bool := okM m && okMap m f
theorem okAll_f {m : Nat} {f : List Nat} (h : okAll m f = false) : okM m = false ∨ okMap m f = false := by
  unfold okAll at h
  rw [Bool.and_eq_false_iff] at h
  exact h
theorem okAll_t {m : Nat} {f : List Nat} (h : okAll m f = true) : ¬ (okM m = false ∨ okMap m f = false) := by
  unfold okAll at h
  rw [Bool.and_eq_true] at h
  rw [h.1, h.2]
  simp
theorem ans_shifts (m i j : Nat) (f : List Nat) : Kzs3.answer (.shifts m i j f) = if okM m = false ∨ okMap m f = false then Kzs1.say (-22) else if m < i + j then Kzs1.say (-2) else Kzs1.told (Kzs3.shifts m f ⟨i, j⟩) := rfl
theorem ans_colours (m : Nat) (f : List Nat) : Kzs3.answer (.mapColours m f) = if okM m = false ∨ okMap m f = false then Kzs1.say (-22) else Kzs1.told (Kzs1.ints (Kzs3.mapColours m f)) := rfl
theorem ans_fixed (m : Nat) (f : List Nat) : Kzs3.answer (.fixed m f) = if okM m = false ∨ okMap m f = false then Kzs1.say (-22) else ⟨((Kzs3.fixed m f).length : Nat), (Kzs3.fixed m f).flatMap fun p => [(p.i : Int), (p.j : Int)]⟩ := rfl
theorem natsOf_cast : ∀ f : List Nat, Kzs3Neutral.natsOf (f.map fun x : Nat => (x : Int)) = f
  | [] => rfl
  | a :: r => by
    show ((a : Int).toNat) :: Kzs3Neutral.natsOf (r.map fun x : Nat => (x : Int)) = a :: r
    rw [natsOf_cast r]
    rfl
end
open PySem PySem.Spec PyProof.Rows L2
open PySem.W (Codec WData)
open Kzs2 (places number noOf)
open Kzs3 (okM okMap sent keeps)
/-! ### the text by places -/
def top (i : Nat) : Stmt := PySem.Challenge.pw_fixedcakes_s02_fixed.main.body.getD i (.Pass ⟨0, 0, 0, 0⟩)
abbrev s_is_size : Stmt := top 3
abbrev s_count_places : Stmt := top 4
abbrev s_all_places : Stmt := top 5
abbrev s_place_index : Stmt := top 6
abbrev s_is_map : Stmt := top 7
abbrev s_sent_to : Stmt := top 8
abbrev s_fixed : Stmt := top 9
/-! ### data -/
abbrev nI (n : Nat) : V := .int (n : Int)
abbrev lI (f : List Nat) : List V := f.map nI
abbrev pT (p : Pl) : HO := .tup [nI p.i, nI p.j]
theorem same_upd {H : Hp} {p : Addr} {o : HO} (h : H p = none) : Same H (upd H p o) := fun b x e => by
  rw [upd_ne (ne_of_none e h)]
  exact e
theorem same_mut {H H' : Hp} {p : Addr} {o : HO} (s : Same H H') (h : H p = none) : Same H (upd H' p o) := fun b x e => by
  rw [upd_ne (ne_of_none e h)]
  exact s _ _ e
theorem iteBF {b : Bool} {A B : Prop} (e : b = false) (h : B) : if b = true then A else B := by
  rw [e]
  exact iteF h
theorem iteBT {b : Bool} {A B : Prop} (e : b = true) (h : A) : if b = true then A else B := by
  rw [e]
  exact iteT h
theorem at_nat {xs : List V} {j : Nat} {v : V} (h : xs[j]? = some v) : atI xs (j : Int) = some v := atI_nat h
theorem lI_at {f : List Nat} {k : Nat} (h : k < f.length) : (lI f)[k]? = some (nI (f.getD k 0)) := by
  rw [List.getElem?_map, List.getElem?_eq_getElem h, List.getD_eq_getElem?_getD, List.getElem?_eq_getElem h]
  rfl
theorem lI_len (f : List Nat) : (lI f).length = f.length := List.length_map _
theorem lI_app (f g : List Nat) : lI (f ++ g) = lI f ++ lI g := List.map_append
section
variable {P : Program} {w : World} {K : PySem.W.Frag} {mg : Str → Option Value} {base : Heap}
/-! ### is_size -/
def spIsSize : Sp := fun vs H Q _ => ∃ m : Nat, vs = [nI m] ∧ Q (.bl (okM m)) H
theorem scIsSize : FnScope ["m"] ["m"] (defScope s_is_size) := ⟨rfl, rfl, rfl, by decide +kernel, rfl, by decide +kernel, by decide +kernel⟩
theorem ok_is_size {f : Addr} {fd : FuncData} {t9 : Tok} (F : Fun K "is_size" "is_size" s_is_size f fd) (g9 : mg "GREATEST_SIZE" = some (.int 9 t9)) : FnOk P w K mg base CX0 1 f fd ["m"] spIsSize := by
  refine F.ok scIsSize (fun vs H Q E h => ?_) (fun cdv A outer s H vs Q E hr h => ?_)
  · obtain ⟨m, rfl, _⟩ := h
    rfl
  · obtain ⟨m, rfl, q⟩ := h
    refine ⟨_, pss_one (ps_ret (pe_and (pe_cmp (pc_ge (pv 0) pe_int) rfl) (pe_one (pe_cmp (pc_le (pv 0) (pe_glob (v := .int 9) rfl g9 ⟨_, rfl⟩)) rfl)))), ?_⟩
    refine ⟨_, rfl, _, _, rfl, rfl, _, rfl, ite2 (fun h1 => ?_) (fun h1 => ?_)⟩
    · refine ⟨_, rfl, _, _, rfl, rfl, ?_⟩
      have h1 : (1 : Int) ≤ (m : Int) := of_decide_eq_true h1
      have e : decide ((m : Int) ≤ 9) = okM m := by
        rw [Bool.eq_iff_iff, decide_eq_true_iff, okM_iff]
        omega
      show Q (.bl (decide ((m : Int) ≤ 9))) H
      rw [e]
      exact q
    · have h1 : ¬ (1 : Int) ≤ (m : Int) := fun z => h1 (decide_eq_true z)
      have e : false = okM m := by
        rw [Bool.eq_iff_iff, okM_iff]
        constructor
        · intro z; cases z
        · intro z; omega
      show Q (.bl false) H
      rw [e]
      exact q
/-! ### count_places -/
def spCount : Sp := fun vs H Q _ => ∃ m : Nat, vs = [nI m] ∧ m ≤ 9 ∧ Q (nI (cnt m)) H
theorem scCount : FnScope ["m"] ["m"] (defScope s_count_places) := ⟨rfl, rfl, rfl, by decide +kernel, rfl, by decide +kernel, by decide +kernel⟩
theorem ok_count_places {f : Addr} {fd : FuncData} (F : Fun K "count_places" "count_places" s_count_places f fd) : FnOk P w K mg base CX0 1 f fd ["m"] spCount := by
  refine F.ok scCount (fun vs H Q E h => ?_) (fun cdv A outer s H vs Q E hr h => ?_)
  · obtain ⟨m, rfl, _⟩ := h
    rfl
  · obtain ⟨m, rfl, hm, q⟩ := h
    refine ⟨_, pss_one (ps_ret (pe_op op_fdiv (pe_op op_mul (pe_op op_add (pv 0) pe_int) (pe_op op_add (pv 0) pe_int)) pe_int)), ?_⟩
    refine ⟨_, rfl, _, _, rfl, rfl, _, rfl, _, _, rfl, rfl, _, _, rfl, rfl, .inl ⟨?_, ?_⟩, _, _, rfl, rfl, ⟨by decide, by decide⟩, ?_⟩
    · omega
    · omega
    · show Q (.int (((m : Int) + 1) * ((m : Int) + 2) / 2)) H
      rw [cnt_int hm]
      exact q
/-! ### all_places -/
def PlsAt (H : Hp) (as : List Addr) (ps : List Pl) : Prop := as.length = ps.length ∧ ∀ (k : Nat) (p : Pl), ps[k]? = some p → ∃ a, as[k]? = some a ∧ H a = some (pT p)
theorem PlsAt.mono {H H' : Hp} {as : List Addr} {ps : List Pl} (h : PlsAt H as ps) (s : Same H H') : PlsAt H' as ps :=
  ⟨h.1, fun k p e => let ⟨a, e1, e2⟩ := h.2 k p e; ⟨a, e1, s _ _ e2⟩⟩
theorem PlsAt.snoc {H : Hp} {as : List Addr} {ps : List Pl} {a : Addr} {p : Pl} (h : PlsAt H as ps) (e : H a = some (pT p)) : PlsAt H (as ++ [a]) (ps ++ [p]) := by
  refine ⟨by rw [List.length_append, List.length_append, h.1]; rfl, fun k q hq => ?_⟩
  by_cases hk : k < ps.length
  · rw [List.getElem?_append_left hk] at hq
    rw [List.getElem?_append_left (by rw [h.1]; exact hk)]
    exact h.2 k q hq
  · rw [List.getElem?_append_right (by omega)] at hq
    rw [List.getElem?_append_right (by rw [h.1]; omega), h.1]
    have hz : k - ps.length = 0 := by
      cases z : k - ps.length with
      | zero => rfl
      | succ n => rw [z] at hq; simp at hq
    rw [hz] at hq ⊢
    have e2 : p = q := Option.some.inj hq
    subst e2
    exact ⟨a, rfl, e⟩
theorem PlsAt.put {H : Hp} {as : List Addr} {ps : List Pl} {l : Addr} {xs : List V} {o : HO} (h : PlsAt H as ps) (e : H l = some (.lst xs)) : PlsAt (upd H l o) as ps :=
  ⟨h.1, fun k p q => let ⟨a, e1, e2⟩ := h.2 k p q; ⟨a, e1, by rw [upd_ne (ne_of e2 e (by intro z; cases z))]; exact e2⟩⟩
def spPlaces : Sp := fun vs H Q _ => ∃ m : Nat, vs = [nI m] ∧ m ≤ 9 ∧ ∀ (H' : Hp) (l : Addr) (as : List Addr), Same H H' → H l = none → H' l = some (.lst (as.map V.ref)) → PlsAt H' as (places m) → Q (.ref l) H'
theorem scPlaces : FnScope ["m", "found", "j", "i"] ["m"] (defScope s_all_places) := ⟨rfl, rfl, rfl, by decide +kernel, rfl, by decide +kernel, by decide +kernel⟩
theorem ok_all_places {f : Addr} {fd : FuncData} (F : Fun K "all_places" "all_places" s_all_places f fd) (mr : mg "range" = none) : FnOk P w K mg base CX0 1 f fd ["m"] spPlaces := by
  refine F.ok scPlaces (fun vs H Q E h => ?_) (fun cdv A outer s H vs Q E hr h => ?_)
  · obtain ⟨m, rfl, _⟩ := h
    rfl
  · obtain ⟨m, rfl, h9, q⟩ := h
    refine ⟨_, pss_cons (ps_set (i := 1) scPlaces.nd rfl (.inl rfl) (pe_lst pa_nil))
      (pss_cons (ps_for PassesOwn.never rfl (pi_range1 rfl mr (pa_cons (pe_op op_add (pv 0) pe_int) pa_nil)) (pg_name (i := 2) scPlaces.nd rfl (.inl rfl))
        (pss_one (ps_for PassesOwn.never rfl (pi_range1 rfl mr (pa_cons (pe_op op_sub (pe_op op_add (pv 0) pe_int) (pv 2)) pa_nil)) (pg_name (i := 3) scPlaces.nd rfl (.inl rfl))
          (pss_one (ps_expr (pe_bm PySem.F.plainAttrs_list PySem.F.slot_list_append PySem.F.type_list_append mt_append (pv 1) (pa_cons (pe_tup (pa_cons (pv 3) (pa_cons (pv 2) pa_nil))) pa_nil)))))))
      (pss_one (ps_ret (pv 1)))), ?_⟩
    refine ⟨Nat.zero_le _, fun l nl => ?_⟩
    have t1 : (((m : Int) + 1)).toNat = m + 1 := by omega
    refine ⟨_, rfl, _, _, rfl, rfl, _, rfl, by omega, by omega, for_range (n := ((m : Int) + 1).toNat) (fun j σ H' => ∃ (v2 v3 : Option V) (as : List Addr), σ = [some (nI m), some (.ref l), v2, v3] ∧ Same H H' ∧ H' l = some (.lst (as.map V.ref)) ∧ PlsAt H' as (rowsTo m j))
      ⟨none, none, [], rfl, same_upd nl, upd_same, rfl, fun k p hq => by simp [rowsTo] at hq⟩ ?_ ?_⟩
    · rintro j σ H1 hj ⟨v2, v3, as, rfl, s1, el, pa⟩
      rw [t1] at hj
      have t2 : (((m : Int) + 1 - (0 + (j : Int)))).toNat = m + 1 - j := by omega
      refine ⟨_, rfl, _, _, rfl, rfl, _, rfl, _, _, rfl, rfl, _, rfl, by omega, by omega, for_range (n := ((m : Int) + 1 - (0 + (j : Int))).toNat) (fun i σ H' => ∃ (v3 : Option V) (as : List Addr), σ = [some (nI m), some (.ref l), some (.int (0 + (j : Int))), v3] ∧ Same H H' ∧ H' l = some (.lst (as.map V.ref)) ∧ PlsAt H' as (partTo m j i))
        ⟨v3, as, rfl, s1, el, by rw [partTo_zero]; exact pa⟩ ?_ ?_⟩
      · rintro i σ H2 hi ⟨v3, as, rfl, s2, el, pa⟩
        rw [t2] at hi
        refine ⟨_, rfl, .inl ⟨rfl, _, SqL.of el⟩, _, rfl, _, rfl, by show 2 ≤ sizeLine; decide, fun t nt => ?_⟩
        have s3 := same_upd (o := .tup [.int (0 + (i : Int)), .int (0 + (j : Int))]) nt
        have et : upd H2 t (.tup [.int (0 + (i : Int)), .int (0 + (j : Int))]) t = some (pT ⟨i, j⟩) := by
          rw [upd_same, Int.zero_add, Int.zero_add]
        refine ⟨l, _, _, rfl, rfl, s3 _ _ el, ?_, ?_⟩
        · rw [List.length_map, pa.1]
          exact Nat.lt_of_le_of_lt (partTo_len h9 (by omega) (by omega)) (small1000 (by decide))
        · refine ⟨_, as ++ [t], rfl, same_mut (s2.trans s3) nl, ?_, ?_⟩
          · rw [upd_same, List.map_append]
            rfl
          · rw [partTo_succ]
            exact ((pa.mono s3).snoc et).put (s3 _ _ el)
      · rintro σ H2 ⟨v3, as, rfl, s2, el, pa⟩
        rw [t2, ← rowsTo_succ] at pa
        exact ⟨_, _, as, rfl, s2, el, pa⟩
    · rintro σ H1 ⟨v2, v3, as, rfl, s1, el, pa⟩
      rw [t1] at pa
      exact ⟨_, rfl, q H1 l as s1 nl el pa⟩
/-! ### place_index -/
def spIndex : Sp := fun vs H Q _ => ∃ (m : Nat) (a : Addr) (p : Pl), vs = [nI m, .ref a] ∧ m ≤ 9 ∧ p.i + p.j ≤ m ∧ H a = some (pT p) ∧ Q (nI (noOf m p)) H
theorem scIndex : FnScope ["m", "place", "j"] ["m", "place"] (defScope s_place_index) := ⟨rfl, rfl, rfl, by decide +kernel, rfl, by decide +kernel, by decide +kernel⟩
theorem ok_place_index {f : Addr} {fd : FuncData} (F : Fun K "place_index" "place_index" s_place_index f fd) : FnOk P w K mg base CX0 1 f fd ["m", "place"] spIndex := by
  refine F.ok scIndex (fun vs H Q E h => ?_) (fun cdv A outer s H vs Q E hr h => ?_)
  · obtain ⟨m, a, p, rfl, _⟩ := h
    rfl
  · obtain ⟨m, a, p, rfl, hm, hp, ha, q⟩ := h
    refine ⟨_, pss_cons (ps_set (i := 2) scIndex.nd rfl (.inl rfl) (pe_ix ix_tup (pv 1) pe_int (fun _ _ => rfl)))
      (pss_one (ps_ret (pe_op op_add (pe_op op_sub (pe_op op_mul (pv 2) (pe_op op_add (pv 0) pe_int)) (pe_op op_fdiv (pe_op op_mul (pv 2) (pe_op op_sub (pv 2) pe_int)) pe_int)) (pe_ix ix_tup (pv 1) pe_int (fun _ _ => rfl))))), ?_⟩
    refine ⟨_, rfl, a, _, _, nI p.j, rfl, rfl, SqT.of ha, at_nat (j := 1) rfl, ?_⟩
    refine ⟨_, rfl, _, rfl, _, _, rfl, rfl, _, _, rfl, rfl, .inl ⟨by omega, by omega⟩, _, rfl, _, rfl, _, _, rfl, rfl, _, _, rfl, rfl, .inl ⟨by omega, by omega⟩, _, _, rfl, rfl, ⟨by decide, by decide⟩, _, _, rfl, rfl,
      _, rfl, a, _, _, nI p.i, rfl, rfl, SqT.of ha, at_nat (j := 0) rfl, _, _, rfl, rfl, ?_⟩
    show Q (.int ((p.j : Int) * ((m : Int) + 1) - (p.j : Int) * ((p.j : Int) - 1) / 2 + (p.i : Int))) H
    rw [ix_int hm hp]
    exact q
/-! ### is_map -/
def spIsMap (K : PySem.W.Frag) : Sp := fun vs H Q _ => ∃ (m : Nat) (a : Addr) (f : List Nat), vs = [nI m, .ref a] ∧ SqL K H a (lI f) ∧ Q (.bl (okAll m f)) H
theorem scIsMap : FnScope ["m", "f", "k"] ["m", "f"] (defScope s_is_map) := ⟨rfl, rfl, rfl, by decide +kernel, rfl, by decide +kernel, by decide +kernel⟩
theorem ok_is_map {f fS fC : Addr} {fd fdS fdC : FuncData} (F : Fun K "is_map" "is_map" s_is_map f fd) (FS : Fun K "is_size" "is_size" s_is_size fS fdS) (FC : Fun K "count_places" "count_places" s_count_places fC fdC)
    (GS : FnOk P w K mg base CX0 1 fS fdS ["m"] spIsSize) (GC : FnOk P w K mg base CX0 1 fC fdC ["m"] spCount) (bS : Binds K fdS ["m"] []) (bC : Binds K fdC ["m"] []) (gS : mg "is_size" = some (.ref fS)) (gC : mg "count_places" = some (.ref fC))
    (ml : mg "len" = none) (mr : mg "range" = none) : FnOk P w K mg base CX0 2 f fd ["m", "f"] (spIsMap K) := by
  refine F.ok scIsMap (fun vs H Q E h => ?_) (fun cdv A outer s H vs Q E hr h => ?_)
  · obtain ⟨m, a, ns, rfl, _⟩ := h
    rfl
  · obtain ⟨m, a, ns, rfl, ha, q⟩ := h
    refine ⟨_, pss_cons (ps_if (pt_not (pt_val (pe_call GS hr rfl gS FS.kp bS .nil pass0 (pa_cons (pv 0) pa_nil)))) (pss_one (ps_ret pe_bl)) pss_nil)
      (pss_cons (ps_if (pt_cmpR op_ne (pe_callB call_len_seq (by rfl) ml PySem.boot_len (pa_cons (pv 1) pa_nil)) (pe_op op_mul pe_int (pe_call GC hr rfl gC FC.kp bC .nil pass0 (pa_cons (pv 0) pa_nil))) (nomark _)) (pss_one (ps_ret pe_bl)) pss_nil)
      (pss_cons (ps_for PassesOwn.never rfl (pi_range1 rfl mr (pa_cons (pe_call GC hr rfl gC FC.kp bC .nil pass0 (pa_cons (pv 0) pa_nil)) pa_nil)) (pg_name (i := 2) scIsMap.nd rfl (.inl rfl))
        (pss_one (ps_if (pt_cmpR op_gt (pe_op op_add (pe_ix ix_list (pv 1) (pe_op op_mul pe_int (pv 2)) (fun _ _ => rfl)) (pe_ix ix_list (pv 1) (pe_op op_add (pe_op op_mul pe_int (pv 2)) pe_int) (fun _ _ => rfl))) (pv 0) (nomark _)) (pss_one (ps_ret pe_bl)) pss_nil)))
      (pss_one (ps_ret pe_bl)))), ?_⟩
    -- if not is_size(m)
    refine ⟨_, rfl, m, rfl, _, rfl, ?_⟩
    cases hM : okM m with
    | false =>
      have e : okAll m ns = false := by unfold okAll; rw [hM]; rfl
      rw [e] at q
      exact iteT q
    | true =>
      obtain ⟨h1, h9⟩ := okM_iff.mp hM
      refine iteF ?_
      -- if len(f) != 2 * count_places(m)
      refine ⟨_, rfl, a, _, rfl, .inl ha, _, rfl, m, rfl, h9, _, _, rfl, rfl, .inl ⟨by decide, by decide⟩, rfl, _, rfl, ?_⟩
      by_cases hl : ns.length = 2 * cnt m
      · have e1 : (!decide (V.int ((lI ns).length : Int) = V.int (2 * ((cnt m : Nat) : Int)))) = false := by
          rw [lI_len, hl, decide_eq_true (by congr 1)]
          rfl
        rw [e1]
        refine iteF ?_
        -- the loop
        have hp := cnt_le m (by omega)
        refine ⟨_, rfl, m, rfl, h9, _, rfl, by omega, by omega, for_range (n := (((cnt m : Nat) : Int)).toNat) (fun i σ H' => ∃ v : Option V, σ = [some (nI m), some (.ref a), v] ∧ H' = H ∧ ∀ n, n < i → ns.getD (2 * n) 0 + ns.getD (2 * n + 1) 0 ≤ m) ⟨none, rfl, rfl, fun n hn => absurd hn (Nat.not_lt_zero _)⟩ ?_ ?_⟩
        · rintro i σ H' hi ⟨v, rfl, rfl, hn⟩
          have hi : i < cnt m := by simpa using hi
          have a1 : (lI ns)[2 * i]? = some (nI (ns.getD (2 * i) 0)) := lI_at (by omega)
          have a2 : (lI ns)[2 * i + 1]? = some (nI (ns.getD (2 * i + 1) 0)) := lI_at (by omega)
          refine ⟨_, rfl, _, rfl, _, _, rfl, rfl, .inl ⟨by decide, by decide⟩, a, _, _, _, rfl, rfl, ha, at_of (j := 2 * i) (by omega) a1, _, rfl, _, rfl, _, _, rfl, rfl, .inl ⟨by decide, by decide⟩, _, _, rfl, rfl, a, _, _, _, rfl, rfl, ha, at_of (j := 2 * i + 1) (by omega) a2, _, _, rfl, rfl, _, rfl, _, _, rfl, rfl, _, rfl, ite2 (fun z => ?_) (fun z => ?_)⟩
          · have z : (m : Int) < ((ns.getD (2 * i) 0 : Nat) : Int) + ((ns.getD (2 * i + 1) 0 : Nat) : Int) := of_decide_eq_true z
            have e : okAll m ns = false := by
              cases ho : okAll m ns with
              | false => rfl
              | true =>
                unfold okAll at ho
                rw [Bool.and_eq_true] at ho
                have := (okMap_iff.mp ho.2).2 i hi
                omega
            rw [e] at q
            exact q
          · have z : ¬ (m : Int) < ((ns.getD (2 * i) 0 : Nat) : Int) + ((ns.getD (2 * i + 1) 0 : Nat) : Int) := fun y => z (decide_eq_true y)
            refine ⟨_, rfl, rfl, fun n hn' => ?_⟩
            by_cases en : n = i
            · subst en
              omega
            · exact hn n (by omega)
        · rintro σ H' ⟨v, rfl, rfl, hn⟩
          have hn : ∀ n, n < cnt m → ns.getD (2 * n) 0 + ns.getD (2 * n + 1) 0 ≤ m := fun n h => hn n (by simpa using h)
          have e : okAll m ns = true := by
            unfold okAll
            rw [hM, okMap_iff.mpr ⟨hl, hn⟩]
            rfl
          rw [e] at q
          exact q
      · have e1 : (!decide (V.int ((lI ns).length : Int) = V.int (2 * ((cnt m : Nat) : Int)))) = true := by
          rw [lI_len, decide_eq_false (by intro z; have := V.int.inj z; omega)]
          rfl
        rw [e1]
        have e : okAll m ns = false := by
          cases ho : okAll m ns with
          | false => rfl
          | true =>
            unfold okAll at ho
            rw [Bool.and_eq_true] at ho
            exact absurd (okMap_iff.mp ho.2).1 hl
        rw [e] at q
        exact iteT q
/-! ### sent_to -/
def spSent (K : PySem.W.Frag) : Sp := fun vs H Q _ => ∃ (m : Nat) (a b : Addr) (f : List Nat) (p : Pl), vs = [nI m, .ref a, .ref b] ∧ m ≤ 9 ∧ okMap m f = true ∧ SqL K H a (lI f) ∧ p.i + p.j ≤ m ∧ H b = some (pT p) ∧ ∀ t, H t = none → Q (.ref t) (upd H t (pT (sent m f p)))
theorem scSent : FnScope ["m", "f", "place", "k"] ["m", "f", "place"] (defScope s_sent_to) := ⟨rfl, rfl, rfl, by decide +kernel, rfl, by decide +kernel, by decide +kernel⟩
theorem ok_sent_to {f fI : Addr} {fd fdI : FuncData} (F : Fun K "sent_to" "sent_to" s_sent_to f fd) (FI : Fun K "place_index" "place_index" s_place_index fI fdI)
    (GI : FnOk P w K mg base CX0 1 fI fdI ["m", "place"] spIndex) (bI : Binds K fdI ["m", "place"] []) (gI : mg "place_index" = some (.ref fI)) : FnOk P w K mg base CX0 2 f fd ["m", "f", "place"] (spSent K) := by
  refine F.ok scSent (fun vs H Q E h => ?_) (fun cdv A outer s H vs Q E hr h => ?_)
  · obtain ⟨m, a, b, ns, p, rfl, _⟩ := h
    rfl
  · obtain ⟨m, a, b, ns, p, rfl, h9, ho, ha, hp, hb, q⟩ := h
    refine ⟨_, pss_cons (ps_set (i := 3) scSent.nd rfl (.inl rfl) (pe_call GI hr rfl gI FI.kp bI .nil pass0 (pa_cons (pv 0) (pa_cons (pv 2) pa_nil))))
      (pss_one (ps_ret (pe_tup (pa_cons (pe_ix ix_list (pv 1) (pe_op op_mul pe_int (pv 3)) (fun _ _ => rfl)) (pa_cons (pe_ix ix_list (pv 1) (pe_op op_add (pe_op op_mul pe_int (pv 3)) pe_int) (fun _ _ => rfl)) pa_nil))))), ?_⟩
    have hl := (okMap_iff.mp ho).1
    have hn := no_cnt h9 hp
    have a1 : (lI ns)[2 * noOf m p]? = some (nI (sent m ns p).i) := lI_at (by omega)
    have a2 : (lI ns)[2 * noOf m p + 1]? = some (nI (sent m ns p).j) := lI_at (by omega)
    refine ⟨_, rfl, _, rfl, m, b, p, rfl, h9, hp, hb, ?_⟩
    refine ⟨_, rfl, _, rfl, _, _, rfl, rfl, .inl ⟨by decide, by decide⟩, a, _, _, _, rfl, rfl, ha, at_of (j := 2 * noOf m p) (by omega) a1, _, rfl, _, rfl, _, _, rfl, rfl, .inl ⟨by decide, by decide⟩, _, _, rfl, rfl, a, _, _, _, rfl, rfl, ha, at_of (j := 2 * noOf m p + 1) (by omega) a2, ?_⟩
    exact ⟨by show 2 ≤ sizeLine; decide, fun t ht => q t ht⟩
/-! ### list.extend of a tuple -/
theorem ext_tup {l b : Addr} {xs ys : Array Value} {n k : Nat} {od : Option Addr} {sl : Array (Option Value)} (h0 : Builtin.List.listTooLong (xs.size + ys.size) = false) (h1 : xs.size + ys.size ≤ sizeLine) :
    Meets (Builtin.«list.extend» ⟨[.ref l, .ref b], []⟩) (fun _ R s => s.heap.get? l = some { cls := .type "list", data := .seq xs n } ∧ s.heap.get? b = some { cls := .type "tuple", dict := od, data := .seq ys k, slots := sl } ∧ R (.ok (.ret .none)) { s with heap := s.heap.update l (Obj.mapSeq (· ++ ys)) }) := by
  refine .of_wp fun _ _ _ _ st z => ?_
  rcases st with ⟨hp, gs, dr, tk, os⟩
  rcases z with ⟨zl, zb, z⟩
  have y0 : ¬ (!xs.isEmpty && Builtin.List.listTooLong (xs.size + ys.size)) = true := by simp [h0]
  have y1 : xs.size ≤ sizeLine := by omega
  have y2 : (xs ++ ys).size ≤ sizeLine + 1 := by simp; omega
  have k1 := AutoSeq1.sub_tuple_tuple; have k2 := AutoSeq1.sub_list_list; have k3 := AutoSeq1.sub_tuple_list; have k4 := AutoSeq1.sub_list_tuple; have k5 := AutoSeq1.idx_int
  wp_walk using (wpAny_updateSeq zl rfl (hz := y1) (_hz' := y2)), AutoSeq1.wpAny_loadPart' zl, AutoSeq1.wpAny_loadPart' zb
  exact ⟨_, rfl, z⟩
def rExtT : V → List V → Hp → VK → Prop := fun x vs H Q => ∃ l b xs zs, x = .ref l ∧ vs = [.ref b] ∧ H l = some (.lst xs) ∧ H b = some (.tup zs) ∧ xs.length + zs.length ≤ sizeLine ∧ Q .non (upd H l (.lst (xs ++ zs)))
theorem mt_extT {X : Cx} : MtM X "list.extend" rExtT := by
  rintro pins st σ H _ _ v us Q I rx rv ⟨l, b, xs, zs, rfl, rfl, eL, eB, hle, fin⟩
  cases rx
  obtain ⟨_, rfl, ru⟩ := rv.one
  cases ru
  obtain ⟨_, as, n, ra, la, gl⟩ := I.lstM eL
  obtain ⟨_, bs, rb, ⟨oc, od, oda, osl⟩, gb, cb, k, db⟩ := (show ObjOk X.prog X.w H st.heap b (.tup zs) from I.hok b _ eB)
  cases (show oc = .type "tuple" from cb)
  cases (show oda = .seq bs.toArray k from db)
  have lb := rb.length
  have hsz : as.toArray.size + bs.toArray.size ≤ sizeLine := by simp; omega
  refine call_meets F.slot_list_extend ⟨_, gl, rfl⟩ F.entry_list_extend (F.args_list_extend_2 (.ref l) (.ref b)) (ext_tup (notLongL hsz) hsz) ⟨gl, gb, .non, upd H l (.lst (xs ++ zs)), ?_, rfl, fin⟩
  exact I.lset (its' := as ++ bs) eL gl (by simp) (ra.append rb) (by rw [List.length_append]; exact hle)
/-! ### fixed -/
theorem eq_pl (p q : Pl) : PyData.eqv (.tuple [.int (p.i : Int), .int (p.j : Int)]) (.tuple [.int (q.i : Int), .int (q.j : Int)]) = (p == q) := by
  obtain ⟨a, b⟩ := p
  obtain ⟨c, d⟩ := q
  rw [Bool.eq_iff_iff, beq_iff_eq]
  show (((a : Int) == (c : Int)) && (((b : Int) == (d : Int)) && true)) = true ↔ _
  simp only [Bool.and_eq_true, beq_iff_eq, and_true, Kzs2.Place.mk.injEq]
  omega
def held (m : Nat) (f : List Nat) (c : Nat) : List Pl := ((places m).take c).filter fun p => sent m f p == p
theorem held_succ {m : Nat} {f : List Nat} {c : Nat} {p : Pl} (h : (places m)[c]? = some p) : held m f (c + 1) = held m f c ++ (if (sent m f p == p) = true then [p] else []) := by
  unfold held
  rw [take_snoc h, List.filter_append]
  by_cases e : (sent m f p == p) = true
  · rw [if_pos e, List.filter_cons_of_pos (p := fun p => sent m f p == p) e]
    rfl
  · rw [if_neg e, List.filter_cons_of_neg (p := fun p => sent m f p == p) e]
    rfl
theorem held_len (m : Nat) (f : List Nat) (c : Nat) : (held m f c).length ≤ cnt m := by
  unfold held cnt
  refine Nat.le_trans (List.length_filter_le _ _) ?_
  rw [List.length_take]
  exact Nat.min_le_right _ _
theorem held_all (m : Nat) (f : List Nat) : held m f (places m).length = Kzs3.fixed m f := by
  unfold held Kzs3.fixed
  rw [List.take_length]
def two (ps : List Pl) : List V := ps.flatMap fun p => [nI p.i, nI p.j]
theorem two_len : ∀ ps : List Pl, (two ps).length = 2 * ps.length
  | [] => rfl
  | p :: r => by
    show (two r).length + 2 = 2 * (r.length + 1)
    rw [two_len r]
    omega
theorem two_app (a b : List Pl) : two (a ++ b) = two a ++ two b := List.flatMap_append
theorem two_ints : ∀ ps : List Pl, two ps = (ps.flatMap fun p => [(p.i : Int), (p.j : Int)]).map V.int
  | [] => rfl
  | p :: r => by
    show nI p.i :: nI p.j :: two r = _
    rw [two_ints r]
    rfl
def spFixed (K : PySem.W.Frag) : Sp := fun vs H Q _ => ∃ (m : Nat) (a : Addr) (f : List Nat), vs = [nI m, .ref a] ∧ SqL K H a (lI f) ∧ ∀ (H' : Hp) (p : Addr), H' p = some (.lst ((aL (.fixed m f)).map V.int)) → Q (.ref p) H'
theorem scFixed : FnScope ["m", "f", "held", "answer", "place"] ["m", "f"] (defScope s_fixed) := ⟨rfl, rfl, rfl, by decide +kernel, rfl, by decide +kernel, by decide +kernel⟩
theorem ok_fixed {f fM fA fT : Addr} {fd fdM fdA fdT : FuncData} {t22 : Tok} (F : Fun K "fixed" "fixed" s_fixed f fd) (FM : Fun K "is_map" "is_map" s_is_map fM fdM) (FA : Fun K "all_places" "all_places" s_all_places fA fdA) (FT : Fun K "sent_to" "sent_to" s_sent_to fT fdT)
    (GM : FnOk P w K mg base CX0 2 fM fdM ["m", "f"] (spIsMap K)) (GA : FnOk P w K mg base CX0 1 fA fdA ["m"] spPlaces) (GT : FnOk P w K mg base CX0 2 fT fdT ["m", "f", "place"] (spSent K)) (bM : Binds K fdM ["m", "f"] []) (bA : Binds K fdA ["m"] []) (bT : Binds K fdT ["m", "f", "place"] [])
    (gM : mg "is_map" = some (.ref fM)) (gA : mg "all_places" = some (.ref fA)) (gT : mg "sent_to" = some (.ref fT)) (g22 : mg "NOT_AS_TOLD" = some (.int (-22) t22)) (ml : mg "len" = none) : FnOk P w K mg base CX0 3 f fd ["m", "f"] (spFixed K) := by
  refine F.ok scFixed (fun vs H Q E h => ?_) (fun cdv A outer s H vs Q E hr h => ?_)
  · obtain ⟨m, a, ns, rfl, _⟩ := h
    rfl
  · obtain ⟨m, a, ns, rfl, ha, q⟩ := h
    have hr1 : Room 1 _ := hr.mono (by decide)
    refine ⟨_, pss_cons (ps_if (pt_not (pt_val (pe_call GM hr rfl gM FM.kp bM .nil pass0 (pa_cons (pv 0) (pa_cons (pv 1) pa_nil))))) (pss_one (ps_ret (pe_lst (pa_cons (pe_glob (v := .int (-22)) rfl g22 ⟨_, rfl⟩) pa_nil)))) pss_nil)
      (pss_cons (ps_setLc (i := 2) (own := [("place", 4)]) (g := gName 4) (tt := tTest (tOp (rEqD K) (tCall (spSent K) [] E0 (tCons (tVar 0) (tCons (tVar 1) (tCons (tVar 4) tNil)))) (tVar 4))) (te := tVar 4)
          rfl scFixed.nd rfl rfl (sw_true rfl rfl rfl (by decide +kernel)) (pi_list (pe_call GA hr1 rfl gA FA.kp bA .nil pass0 (pa_cons (pv 0) pa_nil))) (blkOk_by (own := [("place", 4)]) (N := ["m", "f", "held", "answer", "place"]) (sc := defScope s_fixed) (by decide +kernel))
          (fun _ _ _ _ _ => pg_name (i := 4) scFixed.nd rfl (.inl rfl))
          (fun _ _ _ _ _ => pts_one (pt_cmpR (op_eqD hr.units) (pe_call GT hr rfl gT FT.kp bT .nil pass0 (pa_cons (pv 0) (pa_cons (pv 1) (pa_cons (pv 4) pa_nil)))) (pv 4) (nomark _)))
          (fun _ _ _ _ _ => pv 4))
      (pss_cons (ps_set (i := 3) scFixed.nd rfl (.inl rfl) (pe_lst (pa_cons (pe_callB call_len_seq (by rfl) ml PySem.boot_len (pa_cons (pv 2) pa_nil)) pa_nil)))
      (pss_cons (ps_for PassesOwn.never rfl (pi_list (pv 2)) (pg_name (i := 4) scFixed.nd rfl (.inl rfl))
        (pss_one (ps_expr (pe_bm PySem.F.plainAttrs_list PySem.F.slot_list_extend PySem.F.type_list_extend mt_extT (pv 3) (pa_cons (pv 4) pa_nil)))))
      (pss_one (ps_ret (pv 3)))))), ?_⟩
    refine ⟨_, rfl, _, rfl, m, a, ns, rfl, ha, _, rfl, ?_⟩
    cases hM : okAll m ns with
    | false =>
      refine iteT ⟨by show 1 ≤ sizeLine; decide, fun p hp => ?_⟩
      refine q _ p ?_
      have e : aL (.fixed m ns) = [-22] := by
        unfold aL
        rw [ans_fixed, if_pos (okAll_f hM)]
        rfl
      rw [e]
      exact upd_same
    | true =>
      obtain ⟨hm, ho⟩ : okM m = true ∧ okMap m ns = true := by unfold okAll at hM; rwa [Bool.and_eq_true] at hM
      obtain ⟨h1, h9⟩ := okM_iff.mp hm
      have hc9 := cnt_le m (by omega)
      refine iteF ?_
      -- held = [..]
      refine ⟨_, rfl, m, rfl, h9, fun H1 l as s1 nl el pa => ⟨l, rfl, ⟨_, SqL.of el⟩, fun D nD => ?_⟩⟩
      refine lc_list (K := K) (a := l) (xs := as.map V.ref) (fun c H' => Same H1 H' ∧ ∃ hs : List Addr, H' D = some (.lst (hs.map V.ref)) ∧ PlsAt H' hs (held m ns c)) ⟨same_upd nD, [], upd_same, rfl, fun k p hq => by simp [held] at hq⟩ (fun i H' _ ⟨s2, _⟩ => SqL.of (s2 _ _ el)) ?_ ?_
      · rintro c x H' hc ⟨s2, hs, eD, ph⟩
        have hk : c < as.length := by
          rw [List.getElem?_map] at hc
          cases z : as[c]? with
          | none => rw [z] at hc; cases hc
          | some y => exact (List.getElem?_eq_some_iff.mp z).1
        have hk2 : c < (places m).length := by rw [← pa.1]; exact hk
        have eP : (places m)[c]? = some (places m)[c] := List.getElem?_eq_getElem hk2
        obtain ⟨y, ey, hy⟩ := pa.2 c _ eP
        have ex : x = .ref y := by
          rw [List.getElem?_map, ey] at hc
          exact (Option.some.inj hc).symm
        subst ex
        have hp : (places m)[c].i + (places m)[c].j ≤ m := mem_places.mp (List.getElem_mem hk2)
        generalize (places m)[c] = p at eP hy hp
        refine ⟨rfl, _, rfl, _, rfl, _, rfl, m, a, y, ns, p, rfl, h9, ho, s2.seq (s1.seq ha), hp, s2 _ _ hy, fun t nt => ⟨_, rfl, ?_⟩⟩
        have s3 := same_upd (o := pT (sent m ns p)) nt
        have et : upd H' t (pT (sent m ns p)) t = some (pT (sent m ns p)) := upd_same
        generalize upd H' t (pT (sent m ns p)) = H3 at s3 et
        refine ⟨_, _, .tup (SqT.of et) (.cons (.int _) (.cons (.int _) .nil)), .tup (SqT.of (s3 _ _ (s2 _ _ hy))) (.cons (.int _) (.cons (.int _) .nil)), ?_, ?_, _, rfl, ?_⟩
        · rfl
        · rfl
        · rw [eq_pl]
          cases e : (sent m ns p == p) with
          | false =>
            refine iteBF rfl ⟨s2.trans s3, hs, s3 _ _ eD, ?_⟩
            rw [held_succ eP, e, if_neg Bool.false_ne_true, List.append_nil]
            exact ph.mono s3
          | true =>
            refine iteBT rfl ⟨_, rfl, _, s3 _ _ eD, ?_, same_mut (s2.trans s3) nD, hs ++ [y], ?_, ?_⟩
            · rw [List.length_map, ph.1]
              exact Nat.lt_of_le_of_lt (held_len m ns c) (small1000 (by omega))
            · rw [upd_same, List.map_append]
              rfl
            · rw [held_succ eP, e, if_pos rfl]
              exact ((ph.mono s3).snoc (s3 _ _ (s2 _ _ hy))).put (s3 _ _ eD)
      · rintro H' ⟨s2, hs, eD, ph⟩
        rw [List.length_map, pa.1, held_all] at ph
        have hfl : (Kzs3.fixed m ns).length ≤ 55 := by
          rw [← held_all]
          exact Nat.le_trans (held_len m ns _) hc9
        -- answer = [len(held)]
        refine ⟨_, rfl, D, _, rfl, .inl (SqL.of eD), by show 1 ≤ sizeLine; decide, fun w nw => ?_⟩
        have s3 := same_upd (o := .lst [V.int ((hs.map V.ref).length : Int)]) nw
        have nwD : D ≠ w := ne_of_none eD nw
        refine ⟨_, rfl, D, rfl, ⟨_, SqL.of (s3 _ _ eD)⟩, for_list (K := K) (a := D) (xs := hs.map V.ref) (fun c σ H2 => ∃ v : Option V, σ = [some (nI m), some (.ref a), some (.ref D), some (.ref w), v] ∧ Same H' H2 ∧ H2 w = some (.lst (nI (Kzs3.fixed m ns).length :: two ((Kzs3.fixed m ns).take c))))
          ⟨none, rfl, s3, ?_⟩ (fun i σ H2 _ ⟨_, _, s4, _⟩ => SqL.of (s4 _ _ eD)) ?_ ?_⟩
        · rw [upd_same, List.length_map, ph.1]
          rfl
        · rintro c x σ H2 hc ⟨v, rfl, s4, ew⟩
          have hk : c < hs.length := by
            rw [List.getElem?_map] at hc
            cases z : hs[c]? with
            | none => rw [z] at hc; cases hc
            | some y => exact (List.getElem?_eq_some_iff.mp z).1
          have hk2 : c < (Kzs3.fixed m ns).length := by rw [← ph.1]; exact hk
          have eP : (Kzs3.fixed m ns)[c]? = some (Kzs3.fixed m ns)[c] := List.getElem?_eq_getElem hk2
          obtain ⟨y, ey, hy⟩ := ph.2 c _ eP
          have ex : x = .ref y := by
            rw [List.getElem?_map, ey] at hc
            exact (Option.some.inj hc).symm
          subst ex
          refine ⟨_, rfl, .inl ⟨rfl, _, SqL.of ew⟩, _, rfl, w, y, _, _, rfl, rfl, ew, s4 _ _ hy, ?_, ?_⟩
          · rw [List.length_cons, two_len, List.length_take]
            exact Nat.le_of_lt (small1000 (show 2 * min c (Kzs3.fixed m ns).length + 1 + 2 ≤ 1000 by omega))
          · refine ⟨_, rfl, same_mut s4 nw, ?_⟩
            rw [upd_same, take_snoc eP, two_app, List.cons_append]
            rfl
        · rintro σ H2 ⟨v, rfl, s4, ew⟩
          refine ⟨_, rfl, q H2 w ?_⟩
          rw [ew, List.length_map, ph.1, List.take_length]
          have e : aL (.fixed m ns) = (((Kzs3.fixed m ns).length : Nat) : Int) :: (Kzs3.fixed m ns).flatMap fun p => [(p.i : Int), (p.j : Int)] := by
            unfold aL
            rw [ans_fixed, if_neg (okAll_t hM)]
          rw [e, List.map_cons, two_ints]
/-! ### the request -/
theorem int_nat {z : Int} (h : Codec.inInt 0 4294967295 z = true) : ∃ n : Nat, z = (n : Int) := by
  have q : 0 ≤ z ∧ z ≤ 4294967295 := by
    unfold Codec.inInt at h
    simpa using h
  exact ⟨z.toNat, by omega⟩
theorem ints_nats : ∀ {l : List Int}, l.all (Codec.inInt 0 4294967295) = true → ∃ f : List Nat, l = f.map fun x : Nat => (x : Int)
  | [], _ => ⟨[], rfl⟩
  | z :: r, h => by
    rw [List.all_cons, Bool.and_eq_true] at h
    obtain ⟨n, rfl⟩ := int_nat h.1
    obtain ⟨f, rfl⟩ := ints_nats h.2
    exact ⟨n :: f, rfl⟩

theorem request {K : PySem.W.Frag} {H : Hp} {xs : List V} {a : Codec.denoteAll PySem.Challenge.rw_fixedcakes_s02_fixed.args} (hwi : Codec.withinAll PySem.Challenge.rw_fixedcakes_s02_fixed.args a = true) (hx : DwAll K H xs (Codec.encAll PySem.Challenge.rw_fixedcakes_s02_fixed.args a)) :
    spFixed K xs H (fun v H' => Dw K H' v (PySem.Challenge.rw_fixedcakes_s02_fixed.ret.enc (Codec.app PySem.Challenge.rw_fixedcakes_s02_fixed.args PySem.Challenge.rw_fixedcakes_s02_fixed.f a))) fun _ _ _ => False := by
  obtain ⟨m, f, u⟩ := a
  have q : (Codec.inInt 0 4294967295 m && ((Codec.inLen 0 200 f && f.all (Codec.inInt 0 4294967295)) && true)) = true := hwi
  simp only [Bool.and_eq_true] at q
  obtain ⟨q_m, ⟨r_f, q_f⟩, _⟩ := q
  obtain ⟨m, rfl⟩ := int_nat q_m
  obtain ⟨f, rfl⟩ := ints_nats q_f
  cases hx with
  | cons h_m hx =>
    cases hx with
    | cons h_f hx =>
      cases hx
      cases h_m
      cases h_f with
      | lst hs_f ha_f =>
        have e := L2.ints_dw _ _ ha_f
        subst e
        rw [List.map_map] at hs_f
        refine ⟨m, _, f, rfl, hs_f, fun H' p hp => ?_⟩
        have e : PyKzs3.fixed (m : Int) (f.map fun x : Nat => (x : Int)) = aL (.fixed m f) := by
          show aL (.fixed (m : Int).toNat (Kzs3Neutral.natsOf (f.map fun x : Nat => (x : Int)))) = _
          rw [natsOf_cast]
          rfl
        show Dw K H' (.ref p) (.list ((PyKzs3.fixed (m : Int) (f.map fun x : Nat => (x : Int))).map WData.int))
        rw [e]
        exact .lst (L2.SqL.of hp) (L2.dw_ints _)
end
/-! ### what the top has written -/
theorem all_mk {P : Program} {w : World} {K : PySem.W.Frag} {h : Heap} {mg : Str → Option Value} {fa : Addr} (X : K.In h) (G : h.Ns mainGlobals mg) (hfa : mg "fixed" = some (.ref fa))
    {f1 : Addr} {od1 an1 : Option Addr} {sl1 : Array (Option Value)} {oc1 kV1 dc1 pm1 cd1 ct1 : Value}
    {f2 : Addr} {od2 an2 : Option Addr} {sl2 : Array (Option Value)} {oc2 kV2 dc2 pm2 cd2 ct2 : Value}
    {f3 : Addr} {od3 an3 : Option Addr} {sl3 : Array (Option Value)} {oc3 kV3 dc3 pm3 cd3 ct3 : Value}
    {f4 : Addr} {od4 an4 : Option Addr} {sl4 : Array (Option Value)} {oc4 kV4 dc4 pm4 cd4 ct4 : Value}
    {f5 : Addr} {od5 an5 : Option Addr} {sl5 : Array (Option Value)} {oc5 kV5 dc5 pm5 cd5 ct5 : Value}
    {f6 : Addr} {od6 an6 : Option Addr} {sl6 : Array (Option Value)} {oc6 kV6 dc6 pm6 cd6 ct6 : Value}
    {f7 : Addr} {od7 an7 : Option Addr} {sl7 : Array (Option Value)} {oc7 kV7 dc7 pm7 cd7 ct7 : Value}
    {t_NOT_AS_TOLD : Tok} (g_NOT_AS_TOLD : PySem.W.nsIn K mainGlobals "NOT_AS_TOLD" = some (some (.int (-22) t_NOT_AS_TOLD)))
    {t_GREATEST_SIZE : Tok} (g_GREATEST_SIZE : PySem.W.nsIn K mainGlobals "GREATEST_SIZE" = some (some (.int (9) t_GREATEST_SIZE)))
    (a1 : PySem.W.nsIn K mainGlobals "is_size" = some (some (.ref f1))) (l1 : K.lookup f1 = some ⟨oc1, od1, .func (PySem.W.fnOf "is_size" "is_size" (defArgs s_is_size) (defBody s_is_size) (defScope s_is_size) .none kV1 dc1 pm1 an1 cd1 ct1), sl1⟩) (c1 : PySem.W.codeIn K cd1 "is_size" = true) (k1 : PySem.W.keepIn K (.ref f1) = true)
    (a2 : PySem.W.nsIn K mainGlobals "count_places" = some (some (.ref f2))) (l2 : K.lookup f2 = some ⟨oc2, od2, .func (PySem.W.fnOf "count_places" "count_places" (defArgs s_count_places) (defBody s_count_places) (defScope s_count_places) .none kV2 dc2 pm2 an2 cd2 ct2), sl2⟩) (c2 : PySem.W.codeIn K cd2 "count_places" = true) (k2 : PySem.W.keepIn K (.ref f2) = true)
    (a3 : PySem.W.nsIn K mainGlobals "all_places" = some (some (.ref f3))) (l3 : K.lookup f3 = some ⟨oc3, od3, .func (PySem.W.fnOf "all_places" "all_places" (defArgs s_all_places) (defBody s_all_places) (defScope s_all_places) .none kV3 dc3 pm3 an3 cd3 ct3), sl3⟩) (c3 : PySem.W.codeIn K cd3 "all_places" = true) (k3 : PySem.W.keepIn K (.ref f3) = true)
    (a4 : PySem.W.nsIn K mainGlobals "place_index" = some (some (.ref f4))) (l4 : K.lookup f4 = some ⟨oc4, od4, .func (PySem.W.fnOf "place_index" "place_index" (defArgs s_place_index) (defBody s_place_index) (defScope s_place_index) .none kV4 dc4 pm4 an4 cd4 ct4), sl4⟩) (c4 : PySem.W.codeIn K cd4 "place_index" = true) (k4 : PySem.W.keepIn K (.ref f4) = true)
    (a5 : PySem.W.nsIn K mainGlobals "is_map" = some (some (.ref f5))) (l5 : K.lookup f5 = some ⟨oc5, od5, .func (PySem.W.fnOf "is_map" "is_map" (defArgs s_is_map) (defBody s_is_map) (defScope s_is_map) .none kV5 dc5 pm5 an5 cd5 ct5), sl5⟩) (c5 : PySem.W.codeIn K cd5 "is_map" = true) (k5 : PySem.W.keepIn K (.ref f5) = true)
    (a6 : PySem.W.nsIn K mainGlobals "sent_to" = some (some (.ref f6))) (l6 : K.lookup f6 = some ⟨oc6, od6, .func (PySem.W.fnOf "sent_to" "sent_to" (defArgs s_sent_to) (defBody s_sent_to) (defScope s_sent_to) .none kV6 dc6 pm6 an6 cd6 ct6), sl6⟩) (c6 : PySem.W.codeIn K cd6 "sent_to" = true) (k6 : PySem.W.keepIn K (.ref f6) = true)
    (a7 : PySem.W.nsIn K mainGlobals "fixed" = some (some (.ref f7))) (l7 : K.lookup f7 = some ⟨oc7, od7, .func (PySem.W.fnOf "fixed" "fixed" (defArgs s_fixed) (defBody s_fixed) (defScope s_fixed) .none kV7 dc7 pm7 an7 cd7 ct7), sl7⟩) (c7 : PySem.W.codeIn K cd7 "fixed" = true) (k7 : PySem.W.keepIn K (.ref f7) = true)
    (z_len : PySem.W.nsIn K mainGlobals "len" = some none)
    (z_range : PySem.W.nsIn K mainGlobals "range" = some none)
    : ∃ fd : FuncData, (∀ (s : Shared) (us : List Value), us.length = (["m", "f"] : List Str).length → BindsTo s fd ⟨us, []⟩ ((["m", "f"] : List Str).zip us)) ∧ ∀ base : Heap, K.In base → base.Ns mainGlobals mg → FnOk P w K mg base CX0 3 fa fd ["m", "f"] (spFixed K) := by
  have e := hfa.symm.trans (PySem.W.mg_of X G a7)
  cases e
  have F_is_size := fun_mk (st := s_is_size) l1 c1 k1
  have m_is_size := PySem.W.mg_of X G a1
  have b_is_size := F_is_size.binds (ps := ["m"]) fun _ _ _ _ _ _ us hl => match us, hl with | [_], _ => rfl
  have F_count_places := fun_mk (st := s_count_places) l2 c2 k2
  have m_count_places := PySem.W.mg_of X G a2
  have b_count_places := F_count_places.binds (ps := ["m"]) fun _ _ _ _ _ _ us hl => match us, hl with | [_], _ => rfl
  have F_all_places := fun_mk (st := s_all_places) l3 c3 k3
  have m_all_places := PySem.W.mg_of X G a3
  have b_all_places := F_all_places.binds (ps := ["m"]) fun _ _ _ _ _ _ us hl => match us, hl with | [_], _ => rfl
  have F_place_index := fun_mk (st := s_place_index) l4 c4 k4
  have m_place_index := PySem.W.mg_of X G a4
  have b_place_index := F_place_index.binds (ps := ["m", "place"]) fun _ _ _ _ _ _ us hl => match us, hl with | [_, _], _ => rfl
  have F_is_map := fun_mk (st := s_is_map) l5 c5 k5
  have m_is_map := PySem.W.mg_of X G a5
  have b_is_map := F_is_map.binds (ps := ["m", "f"]) fun _ _ _ _ _ _ us hl => match us, hl with | [_, _], _ => rfl
  have F_sent_to := fun_mk (st := s_sent_to) l6 c6 k6
  have m_sent_to := PySem.W.mg_of X G a6
  have b_sent_to := F_sent_to.binds (ps := ["m", "f", "place"]) fun _ _ _ _ _ _ us hl => match us, hl with | [_, _, _], _ => rfl
  have F_fixed := fun_mk (st := s_fixed) l7 c7 k7
  have m_fixed := PySem.W.mg_of X G a7
  have m_NOT_AS_TOLD := PySem.W.mg_of X G g_NOT_AS_TOLD
  have m_GREATEST_SIZE := PySem.W.mg_of X G g_GREATEST_SIZE
  have m_len := PySem.W.mg_none_of X G z_len
  have m_range := PySem.W.mg_none_of X G z_range
  refine ⟨PySem.W.fnOf "fixed" "fixed" (defArgs s_fixed) (defBody s_fixed) (defScope s_fixed) .none kV7 dc7 pm7 an7 cd7 ct7, fun s us hu => match us, hu with | [_, _], _ => .of_eq rfl, fun base _ _ => ?_⟩
  exact ok_fixed F_fixed F_is_map F_all_places F_sent_to (ok_is_map F_is_map F_is_size F_count_places (ok_is_size F_is_size m_GREATEST_SIZE) (ok_count_places F_count_places) b_is_size b_count_places m_is_size m_count_places m_len m_range) (ok_all_places F_all_places m_range) (ok_sent_to F_sent_to F_place_index (ok_place_index F_place_index) b_place_index m_place_index) b_is_map b_all_places b_sent_to m_is_map m_all_places m_sent_to m_NOT_AS_TOLD m_len
end Fc
open PySem PySem.W PyProof.Rows
set_option maxRecDepth 100000 in
set_option maxHeartbeats 0 in
theorem PySem.Challenge.cw_fixedcakes_s02_fixed_holds : PySem.Challenge.rw_fixedcakes_s02_fixed.Holds := by
  w_on; k_headS; (case hw => exact ⟨[.int 0, .list []], by decide +kernel, by decide +kernel⟩)
  k_fillS
  refine L2.walk_specK (r := PySem.Challenge.rw_fixedcakes_s02_fixed) (k := 3) (CX := L2.CX0) (ps := ["m", "f"]) (sp := Fc.spFixed) (by decide +kernel) rfl rfl ⟨rfl, by decide, by decide⟩ (fun w h Y => PySem.W.kIn_of Y) ?F ?S (fun _ _ _ _ z => z)
  case F =>
    intro w mg fa h Y KX G hmg
    refine' Fc.all_mk KX G hmg ?g_NOT_AS_TOLD ?g_GREATEST_SIZE ?a1 ?l1 ?c1 ?k1 ?a2 ?l2 ?c2 ?k2 ?a3 ?l3 ?c3 ?k3 ?a4 ?l4 ?c4 ?k4 ?a5 ?l5 ?c5 ?k5 ?a6 ?l6 ?c6 ?k6 ?a7 ?l7 ?c7 ?k7 ?z_len ?z_range
    (case g_NOT_AS_TOLD => k_is)
    (case g_GREATEST_SIZE => k_is)
    (case a1 => k_is)
    (case l1 => k_is)
    (case c1 => k_is)
    (case k1 => k_is)
    (case a2 => k_is)
    (case l2 => k_is)
    (case c2 => k_is)
    (case k2 => k_is)
    (case a3 => k_is)
    (case l3 => k_is)
    (case c3 => k_is)
    (case k3 => k_is)
    (case a4 => k_is)
    (case l4 => k_is)
    (case c4 => k_is)
    (case k4 => k_is)
    (case a5 => k_is)
    (case l5 => k_is)
    (case c5 => k_is)
    (case k5 => k_is)
    (case a6 => k_is)
    (case l6 => k_is)
    (case c6 => k_is)
    (case k6 => k_is)
    (case a7 => k_is)
    (case l7 => k_is)
    (case c7 => k_is)
    (case k7 => k_is)
    (case z_len => k_is)
    (case z_range => k_is)
  case S =>
    intro K H xs a hO hwi hask hx
    exact Fc.request hwi hx
#print axioms PySem.Challenge.cw_fixedcakes_s02_fixed_holds
