import PyProof.Rows.All
import Wide.All
import OpenK.AllK
import Wide.FinOn
import Open.SpecLaws
import KE.OsHead
import KE.OsGo
import HandS.Comp
import HandS.ForSpec
import PySem.Challenge.RW_fixedcakes_s01_map_colours
set_option Elab.async false
set_option linter.all false
set_option maxRecDepth 100000
set_option maxHeartbeats 4000000
namespace Fc
section
open Kzs2 (places number noOf)
open Kzs3 (okM okMap sent keeps)
abbrev Pl := Kzs2.Place
def cnt (m : Nat) : Nat := (places m).length
theorem okM_iff {m : Nat} : okM m = true ↔ 1 ≤ m ∧ m ≤ 9 := by
  unfold okM Kzs3.most
  rw [Bool.and_eq_true, decide_eq_true_iff, decide_eq_true_iff]
theorem cnt_all : ∀ m : Nat, m < 10 → ((m : Int) + 1) * ((m : Int) + 2) / 2 = ((cnt m : Nat) : Int) := by decide +kernel
theorem cnt_le : ∀ m, m < 10 → cnt m ≤ 55 := by decide +kernel
theorem ix_all : ∀ m : Nat, m < 10 → ∀ j : Nat, j < 10 → ∀ i : Nat, i < 10 → i + j ≤ m → (j : Int) * ((m : Int) + 1) - (j : Int) * ((j : Int) - 1) / 2 + (i : Int) = ((noOf m ⟨i, j⟩ : Nat) : Int) := by decide +kernel
theorem no_lt : ∀ m, m < 10 → ∀ j, j < 10 → ∀ i, i < 10 → i + j ≤ m → noOf m ⟨i, j⟩ < cnt m := by decide +kernel
theorem cnt_int {m : Nat} (h : m ≤ 9) : ((m : Int) + 1) * ((m : Int) + 2) / 2 = ((cnt m : Nat) : Int) := cnt_all m (by omega)
theorem ix_int {m i j : Nat} (h : m ≤ 9) (hp : i + j ≤ m) : (j : Int) * ((m : Int) + 1) - (j : Int) * ((j : Int) - 1) / 2 + (i : Int) = ((noOf m ⟨i, j⟩ : Nat) : Int) := ix_all m (by omega) j (by omega) i (by omega) hp
theorem no_cnt {m : Nat} {p : Pl} (h : m ≤ 9) (hp : p.i + p.j ≤ m) : noOf m p < cnt m := no_lt m (by omega) p.j (by omega) p.i (by omega) hp
theorem okMap_iff {m : Nat} {f : List Nat} : okMap m f = true ↔ f.length = 2 * cnt m ∧ ∀ n, n < cnt m → f.getD (2 * n) 0 + f.getD (2 * n + 1) 0 ≤ m := by
  unfold okMap cnt
  rw [Bool.and_eq_true, beq_iff_eq, List.all_eq_true]
  constructor
  · rintro ⟨h1, h2⟩
    exact ⟨h1, fun n hn => of_decide_eq_true (h2 n (List.mem_range.mpr hn))⟩
  · rintro ⟨h1, h2⟩
    exact ⟨h1, fun n hn => decide_eq_true (h2 n (List.mem_range.mp hn))⟩
theorem sent_ok {m : Nat} {f : List Nat} {p : Pl} (h : m ≤ 9) (ho : okMap m f = true) (hp : p.i + p.j ≤ m) : (sent m f p).i + (sent m f p).j ≤ m :=
  (okMap_iff.mp ho).2 _ (no_cnt h hp)
theorem mem_places {m : Nat} {p : Pl} : p ∈ places m ↔ p.i + p.j ≤ m := by
  unfold places
  rw [List.mem_flatMap]
  constructor
  · rintro ⟨j, hj, h⟩
    obtain ⟨i, hi, rfl⟩ := List.mem_map.mp h
    have := List.mem_range.mp hi
    have := List.mem_range.mp hj
    show i + j ≤ m
    omega
  · intro h
    refine ⟨p.j, List.mem_range.mpr (by omega), List.mem_map.mpr ⟨p.i, List.mem_range.mpr (by omega), rfl⟩⟩
/-- the test of the colour's search -/
def fits (m : Nat) (f : List Nat) (p : Pl) (k : Nat) : Bool := number m p k != 0 && decide (number m (sent m f p) k ≤ number m p k)
def fitting (m : Nat) (f : List Nat) (p : Pl) (n : Nat) : List Nat := (List.range n).filter (fits m f p)
theorem keeps_eq (m : Nat) (f : List Nat) (p : Pl) : keeps m f p = ((List.range 3).find? (fits m f p)).getD 0 := rfl
theorem fit_some {m : Nat} {f : List Nat} {p : Pl} (h1 : 1 ≤ m) (hp : p.i + p.j ≤ m) (hs : (sent m f p).i + (sent m f p).j ≤ m) : ∃ c, c < 3 ∧ fits m f p c = true := by
  by_cases a0 : fits m f p 0 = true
  · exact ⟨0, by omega, a0⟩
  by_cases a1 : fits m f p 1 = true
  · exact ⟨1, by omega, a1⟩
  by_cases a2 : fits m f p 2 = true
  · exact ⟨2, by omega, a2⟩
  exfalso
  unfold fits number at a0 a1 a2
  simp at a0 a1 a2
  omega
theorem fitting_at {m : Nat} {f : List Nat} {p : Pl} (h1 : 1 ≤ m) (hp : p.i + p.j ≤ m) (hs : (sent m f p).i + (sent m f p).j ≤ m) : (fitting m f p 3)[0]? = some (keeps m f p) := by
  rw [← List.head?_eq_getElem?]
  unfold fitting
  rw [List.head?_filter, keeps_eq]
  cases e : (List.range 3).find? (fits m f p) with
  | some c => rfl
  | none =>
    obtain ⟨c, hc, hf⟩ := fit_some h1 hp hs
    exact absurd hf (by simpa using List.find?_eq_none.mp e c (List.mem_range.mpr hc))
theorem fitting_succ (m : Nat) (f : List Nat) (p : Pl) (n : Nat) : fitting m f p (n + 1) = fitting m f p n ++ (if fits m f p n = true then [n] else []) := by
  unfold fitting
  rw [List.range_succ, List.filter_append]
  by_cases h : fits m f p n = true
  · rw [if_pos h, List.filter_cons_of_pos h]; rfl
  · rw [if_neg h, List.filter_cons_of_neg h]; rfl
theorem fitting_len (m : Nat) (f : List Nat) (p : Pl) (n : Nat) : (fitting m f p n).length ≤ n := by
  unfold fitting
  exact Nat.le_trans (List.length_filter_le _ _) (Nat.le_of_eq List.length_range)
/-- the places as the two loops make them: j rows whole, then i places of row j -/
def rowsTo (m j : Nat) : List Pl := (List.range j).flatMap fun j => (List.range (m + 1 - j)).map fun i => ⟨i, j⟩
def partTo (m j i : Nat) : List Pl := rowsTo m j ++ (List.range i).map fun i => ⟨i, j⟩
theorem rowsTo_succ (m j : Nat) : rowsTo m (j + 1) = partTo m j (m + 1 - j) := by
  unfold rowsTo partTo
  rw [List.range_succ, List.flatMap_append]
  rw [List.flatMap_cons, List.flatMap_nil, List.append_nil]
  rfl
theorem partTo_zero (m j : Nat) : partTo m j 0 = rowsTo m j := by
  unfold partTo
  rw [List.range_zero, List.map_nil, List.append_nil]
theorem partTo_succ (m j i : Nat) : partTo m j (i + 1) = partTo m j i ++ [⟨i, j⟩] := by
  unfold partTo
  rw [List.range_succ, List.map_append, List.append_assoc]
  rfl
theorem rowsTo_len (m : Nat) : ∀ j, (rowsTo m j).length ≤ j * (m + 1)
  | 0 => by unfold rowsTo; simp
  | j + 1 => by
    rw [rowsTo_succ]
    unfold partTo
    rw [List.length_append, List.length_map, List.length_range, Nat.succ_mul]
    have := rowsTo_len m j
    omega
theorem partTo_len {m j i : Nat} (hm : m ≤ 9) (hj : j ≤ m) (hi : i ≤ m + 1) : (partTo m j i).length ≤ 100 := by
  unfold partTo
  rw [List.length_append, List.length_map, List.length_range]
  have h := rowsTo_len m j
  have : j * (m + 1) ≤ 9 * 10 := Nat.mul_le_mul (by omega) (by omega)
  omega
theorem take_snoc {α : Type} : ∀ {l : List α} {i : Nat} {x : α}, l[i]? = some x → l.take (i + 1) = l.take i ++ [x]
  | [], i, x, h => by simp at h
  | a :: l, 0, x, h => by
    have e : a = x := Option.some.inj h
    subst e
    rfl
  | a :: l, i + 1, x, h => by
    have ih := take_snoc (l := l) (i := i) (x := x) h
    show a :: l.take (i + 1) = a :: l.take i ++ [x]
    rw [ih]
    rfl
/-! ### the answers -/
def aL (c : Kzs3.Call) : List Int := (Kzs3.answer c).value :: (Kzs3.answer c).nums
def okAll (m : Nat) (f : List Nat) : Bool := okM m && okMap m f
theorem okAll_f {m : Nat} {f : List Nat} (h : okAll m f = false) : okM m = false ∨ okMap m f = false := by
  unfold okAll at h
  rw [Bool.and_eq_false_iff] at h
  exact h
theorem okAll_t {m : Nat} {f : List Nat} (h : okAll m f = true) : ¬ (okM m = false ∨ okMap m f = false) := by
  unfold okAll at h
  rw [Bool.and_eq_true] at h
  rw [h.1, h.2]
  simp
theorem ans_shifts (m i j : Nat) (f : List Nat) : Kzs3.answer (.shifts m i j f) = if okM m = false ∨ okMap m f = false then Kzs1.say (-22) else if m < i + j then Kzs1.say (-2) else Kzs1.told (Kzs3.shifts m f ⟨i, j⟩) := rfl
theorem ans_colours (m : Nat) (f : List Nat) : Kzs3.answer (.mapColours m f) = if okM m = false ∨ okMap m f = false then Kzs1.say (-22) else Kzs1.told (Kzs1.ints (Kzs3.mapColours m f)) := rfl
theorem ans_fixed (m : Nat) (f : List Nat) : Kzs3.answer (.fixed m f) = if okM m = false ∨ okMap m f = false then Kzs1.say (-22) else ⟨((Kzs3.fixed m f).length : Nat), (Kzs3.fixed m f).flatMap fun p => [(p.i : Int), (p.j : Int)]⟩ := rfl
theorem natsOf_cast : ∀ f : List Nat, Kzs3Neutral.natsOf (f.map fun x : Nat => (x : Int)) = f
  | [] => rfl
  | a :: r => by
    show ((a : Int).toNat) :: Kzs3Neutral.natsOf (r.map fun x : Nat => (x : Int)) = a :: r
    rw [natsOf_cast r]
    rfl
end
open PySem PySem.Spec PyProof.Rows L2
open PySem.W (Codec WData)
open Kzs2 (places number noOf)
open Kzs3 (okM okMap sent keeps)
/-! ### the text by places -/
def top (i : Nat) : Stmt := PySem.Challenge.pw_fixedcakes_s01_map_colours.main.body.getD i (.Pass ⟨0, 0, 0, 0⟩)
abbrev s_is_size : Stmt := top 3
abbrev s_count_places : Stmt := top 4
abbrev s_all_places : Stmt := top 5
abbrev s_place_index : Stmt := top 6
abbrev s_three_numbers : Stmt := top 7
abbrev s_is_map : Stmt := top 8
abbrev s_sent_to : Stmt := top 9
abbrev s_map_colour : Stmt := top 10
abbrev s_colours_of_map : Stmt := top 11
abbrev s_map_colours : Stmt := top 12
/-! ### data -/
abbrev nI (n : Nat) : V := .int (n : Int)
abbrev lI (f : List Nat) : List V := f.map nI
abbrev pT (p : Pl) : HO := .tup [nI p.i, nI p.j]
theorem same_upd {H : Hp} {p : Addr} {o : HO} (h : H p = none) : Same H (upd H p o) := fun b x e => by
  rw [upd_ne (ne_of_none e h)]
  exact e
theorem same_mut {H H' : Hp} {p : Addr} {o : HO} (s : Same H H') (h : H p = none) : Same H (upd H' p o) := fun b x e => by
  rw [upd_ne (ne_of_none e h)]
  exact s _ _ e
theorem iteBF {b : Bool} {A B : Prop} (e : b = false) (h : B) : if b = true then A else B := by
  rw [e]
  exact iteF h
theorem iteBT {b : Bool} {A B : Prop} (e : b = true) (h : A) : if b = true then A else B := by
  rw [e]
  exact iteT h
theorem at_nat {xs : List V} {j : Nat} {v : V} (h : xs[j]? = some v) : atI xs (j : Int) = some v := atI_nat h
theorem lI_at {f : List Nat} {k : Nat} (h : k < f.length) : (lI f)[k]? = some (nI (f.getD k 0)) := by
  rw [List.getElem?_map, List.getElem?_eq_getElem h, List.getD_eq_getElem?_getD, List.getElem?_eq_getElem h]
  rfl
theorem lI_len (f : List Nat) : (lI f).length = f.length := List.length_map _
theorem lI_app (f g : List Nat) : lI (f ++ g) = lI f ++ lI g := List.map_append
section
variable {P : Program} {w : World} {K : PySem.W.Frag} {mg : Str → Option Value} {base : Heap}
/-! ### is_size -/
def spIsSize : Sp := fun vs H Q _ => ∃ m : Nat, vs = [nI m] ∧ Q (.bl (okM m)) H
theorem scIsSize : FnScope ["m"] ["m"] (defScope s_is_size) := ⟨rfl, rfl, rfl, by decide +kernel, rfl, by decide +kernel, by decide +kernel⟩
theorem ok_is_size {f : Addr} {fd : FuncData} {t9 : Tok} (F : Fun K "is_size" "is_size" s_is_size f fd) (g9 : mg "GREATEST_SIZE" = some (.int 9 t9)) : FnOk P w K mg base CX0 1 f fd ["m"] spIsSize := by
  refine F.ok scIsSize (fun vs H Q E h => ?_) (fun cdv A outer s H vs Q E hr h => ?_)
  · obtain ⟨m, rfl, _⟩ := h
    rfl
  · obtain ⟨m, rfl, q⟩ := h
    refine ⟨_, pss_one (ps_ret (pe_and (pe_cmp (pc_ge (pv 0) pe_int) rfl) (pe_one (pe_cmp (pc_le (pv 0) (pe_glob (v := .int 9) rfl g9 ⟨_, rfl⟩)) rfl)))), ?_⟩
    refine ⟨_, rfl, _, _, rfl, rfl, _, rfl, ite2 (fun h1 => ?_) (fun h1 => ?_)⟩
    · refine ⟨_, rfl, _, _, rfl, rfl, ?_⟩
      have h1 : (1 : Int) ≤ (m : Int) := of_decide_eq_true h1
      have e : decide ((m : Int) ≤ 9) = okM m := by
        rw [Bool.eq_iff_iff, decide_eq_true_iff, okM_iff]
        omega
      show Q (.bl (decide ((m : Int) ≤ 9))) H
      rw [e]
      exact q
    · have h1 : ¬ (1 : Int) ≤ (m : Int) := fun z => h1 (decide_eq_true z)
      have e : false = okM m := by
        rw [Bool.eq_iff_iff, okM_iff]
        constructor
        · intro z; cases z
        · intro z; omega
      show Q (.bl false) H
      rw [e]
      exact q
/-! ### count_places -/
def spCount : Sp := fun vs H Q _ => ∃ m : Nat, vs = [nI m] ∧ m ≤ 9 ∧ Q (nI (cnt m)) H
theorem scCount : FnScope ["m"] ["m"] (defScope s_count_places) := ⟨rfl, rfl, rfl, by decide +kernel, rfl, by decide +kernel, by decide +kernel⟩
theorem ok_count_places {f : Addr} {fd : FuncData} (F : Fun K "count_places" "count_places" s_count_places f fd) : FnOk P w K mg base CX0 1 f fd ["m"] spCount := by
  refine F.ok scCount (fun vs H Q E h => ?_) (fun cdv A outer s H vs Q E hr h => ?_)
  · obtain ⟨m, rfl, _⟩ := h
    rfl
  · obtain ⟨m, rfl, hm, q⟩ := h
    refine ⟨_, pss_one (ps_ret (pe_op op_fdiv (pe_op op_mul (pe_op op_add (pv 0) pe_int) (pe_op op_add (pv 0) pe_int)) pe_int)), ?_⟩
    refine ⟨_, rfl, _, _, rfl, rfl, _, rfl, _, _, rfl, rfl, _, _, rfl, rfl, .inl ⟨?_, ?_⟩, _, _, rfl, rfl, ⟨by decide, by decide⟩, ?_⟩
    · omega
    · omega
    · show Q (.int (((m : Int) + 1) * ((m : Int) + 2) / 2)) H
      rw [cnt_int hm]
      exact q
/-! ### all_places -/
def PlsAt (H : Hp) (as : List Addr) (ps : List Pl) : Prop := as.length = ps.length ∧ ∀ (k : Nat) (p : Pl), ps[k]? = some p → ∃ a, as[k]? = some a ∧ H a = some (pT p)
theorem PlsAt.mono {H H' : Hp} {as : List Addr} {ps : List Pl} (h : PlsAt H as ps) (s : Same H H') : PlsAt H' as ps :=
  ⟨h.1, fun k p e => let ⟨a, e1, e2⟩ := h.2 k p e; ⟨a, e1, s _ _ e2⟩⟩
theorem PlsAt.snoc {H : Hp} {as : List Addr} {ps : List Pl} {a : Addr} {p : Pl} (h : PlsAt H as ps) (e : H a = some (pT p)) : PlsAt H (as ++ [a]) (ps ++ [p]) := by
  refine ⟨by rw [List.length_append, List.length_append, h.1]; rfl, fun k q hq => ?_⟩
  by_cases hk : k < ps.length
  · rw [List.getElem?_append_left hk] at hq
    rw [List.getElem?_append_left (by rw [h.1]; exact hk)]
    exact h.2 k q hq
  · rw [List.getElem?_append_right (by omega)] at hq
    rw [List.getElem?_append_right (by rw [h.1]; omega), h.1]
    have hz : k - ps.length = 0 := by
      cases z : k - ps.length with
      | zero => rfl
      | succ n => rw [z] at hq; simp at hq
    rw [hz] at hq ⊢
    have e2 : p = q := Option.some.inj hq
    subst e2
    exact ⟨a, rfl, e⟩
theorem PlsAt.put {H : Hp} {as : List Addr} {ps : List Pl} {l : Addr} {xs : List V} {o : HO} (h : PlsAt H as ps) (e : H l = some (.lst xs)) : PlsAt (upd H l o) as ps :=
  ⟨h.1, fun k p q => let ⟨a, e1, e2⟩ := h.2 k p q; ⟨a, e1, by rw [upd_ne (ne_of e2 e (by intro z; cases z))]; exact e2⟩⟩
def spPlaces : Sp := fun vs H Q _ => ∃ m : Nat, vs = [nI m] ∧ m ≤ 9 ∧ ∀ (H' : Hp) (l : Addr) (as : List Addr), Same H H' → H l = none → H' l = some (.lst (as.map V.ref)) → PlsAt H' as (places m) → Q (.ref l) H'
theorem scPlaces : FnScope ["m", "found", "j", "i"] ["m"] (defScope s_all_places) := ⟨rfl, rfl, rfl, by decide +kernel, rfl, by decide +kernel, by decide +kernel⟩
theorem ok_all_places {f : Addr} {fd : FuncData} (F : Fun K "all_places" "all_places" s_all_places f fd) (mr : mg "range" = none) : FnOk P w K mg base CX0 1 f fd ["m"] spPlaces := by
  refine F.ok scPlaces (fun vs H Q E h => ?_) (fun cdv A outer s H vs Q E hr h => ?_)
  · obtain ⟨m, rfl, _⟩ := h
    rfl
  · obtain ⟨m, rfl, h9, q⟩ := h
    refine ⟨_, pss_cons (ps_set (i := 1) scPlaces.nd rfl (.inl rfl) (pe_lst pa_nil))
      (pss_cons (ps_for PassesOwn.never rfl (pi_range1 rfl mr (pa_cons (pe_op op_add (pv 0) pe_int) pa_nil)) (pg_name (i := 2) scPlaces.nd rfl (.inl rfl))
        (pss_one (ps_for PassesOwn.never rfl (pi_range1 rfl mr (pa_cons (pe_op op_sub (pe_op op_add (pv 0) pe_int) (pv 2)) pa_nil)) (pg_name (i := 3) scPlaces.nd rfl (.inl rfl))
          (pss_one (ps_expr (pe_bm PySem.F.plainAttrs_list PySem.F.slot_list_append PySem.F.type_list_append mt_append (pv 1) (pa_cons (pe_tup (pa_cons (pv 3) (pa_cons (pv 2) pa_nil))) pa_nil)))))))
      (pss_one (ps_ret (pv 1)))), ?_⟩
    refine ⟨Nat.zero_le _, fun l nl => ?_⟩
    have t1 : (((m : Int) + 1)).toNat = m + 1 := by omega
    refine ⟨_, rfl, _, _, rfl, rfl, _, rfl, by omega, by omega, for_range (n := ((m : Int) + 1).toNat) (fun j σ H' => ∃ (v2 v3 : Option V) (as : List Addr), σ = [some (nI m), some (.ref l), v2, v3] ∧ Same H H' ∧ H' l = some (.lst (as.map V.ref)) ∧ PlsAt H' as (rowsTo m j))
      ⟨none, none, [], rfl, same_upd nl, upd_same, rfl, fun k p hq => by simp [rowsTo] at hq⟩ ?_ ?_⟩
    · rintro j σ H1 hj ⟨v2, v3, as, rfl, s1, el, pa⟩
      rw [t1] at hj
      have t2 : (((m : Int) + 1 - (0 + (j : Int)))).toNat = m + 1 - j := by omega
      refine ⟨_, rfl, _, _, rfl, rfl, _, rfl, _, _, rfl, rfl, _, rfl, by omega, by omega, for_range (n := ((m : Int) + 1 - (0 + (j : Int))).toNat) (fun i σ H' => ∃ (v3 : Option V) (as : List Addr), σ = [some (nI m), some (.ref l), some (.int (0 + (j : Int))), v3] ∧ Same H H' ∧ H' l = some (.lst (as.map V.ref)) ∧ PlsAt H' as (partTo m j i))
        ⟨v3, as, rfl, s1, el, by rw [partTo_zero]; exact pa⟩ ?_ ?_⟩
      · rintro i σ H2 hi ⟨v3, as, rfl, s2, el, pa⟩
        rw [t2] at hi
        refine ⟨_, rfl, .inl ⟨rfl, _, SqL.of el⟩, _, rfl, _, rfl, by show 2 ≤ sizeLine; decide, fun t nt => ?_⟩
        have s3 := same_upd (o := .tup [.int (0 + (i : Int)), .int (0 + (j : Int))]) nt
        have et : upd H2 t (.tup [.int (0 + (i : Int)), .int (0 + (j : Int))]) t = some (pT ⟨i, j⟩) := by
          rw [upd_same, Int.zero_add, Int.zero_add]
        refine ⟨l, _, _, rfl, rfl, s3 _ _ el, ?_, ?_⟩
        · rw [List.length_map, pa.1]
          exact Nat.lt_of_le_of_lt (partTo_len h9 (by omega) (by omega)) (small1000 (by decide))
        · refine ⟨_, as ++ [t], rfl, same_mut (s2.trans s3) nl, ?_, ?_⟩
          · rw [upd_same, List.map_append]
            rfl
          · rw [partTo_succ]
            exact ((pa.mono s3).snoc et).put (s3 _ _ el)
      · rintro σ H2 ⟨v3, as, rfl, s2, el, pa⟩
        rw [t2, ← rowsTo_succ] at pa
        exact ⟨_, _, as, rfl, s2, el, pa⟩
    · rintro σ H1 ⟨v2, v3, as, rfl, s1, el, pa⟩
      rw [t1] at pa
      exact ⟨_, rfl, q H1 l as s1 nl el pa⟩
/-! ### place_index -/
def spIndex : Sp := fun vs H Q _ => ∃ (m : Nat) (a : Addr) (p : Pl), vs = [nI m, .ref a] ∧ m ≤ 9 ∧ p.i + p.j ≤ m ∧ H a = some (pT p) ∧ Q (nI (noOf m p)) H
theorem scIndex : FnScope ["m", "place", "j"] ["m", "place"] (defScope s_place_index) := ⟨rfl, rfl, rfl, by decide +kernel, rfl, by decide +kernel, by decide +kernel⟩
theorem ok_place_index {f : Addr} {fd : FuncData} (F : Fun K "place_index" "place_index" s_place_index f fd) : FnOk P w K mg base CX0 1 f fd ["m", "place"] spIndex := by
  refine F.ok scIndex (fun vs H Q E h => ?_) (fun cdv A outer s H vs Q E hr h => ?_)
  · obtain ⟨m, a, p, rfl, _⟩ := h
    rfl
  · obtain ⟨m, a, p, rfl, hm, hp, ha, q⟩ := h
    refine ⟨_, pss_cons (ps_set (i := 2) scIndex.nd rfl (.inl rfl) (pe_ix ix_tup (pv 1) pe_int (fun _ _ => rfl)))
      (pss_one (ps_ret (pe_op op_add (pe_op op_sub (pe_op op_mul (pv 2) (pe_op op_add (pv 0) pe_int)) (pe_op op_fdiv (pe_op op_mul (pv 2) (pe_op op_sub (pv 2) pe_int)) pe_int)) (pe_ix ix_tup (pv 1) pe_int (fun _ _ => rfl))))), ?_⟩
    refine ⟨_, rfl, a, _, _, nI p.j, rfl, rfl, SqT.of ha, at_nat (j := 1) rfl, ?_⟩
    refine ⟨_, rfl, _, rfl, _, _, rfl, rfl, _, _, rfl, rfl, .inl ⟨by omega, by omega⟩, _, rfl, _, rfl, _, _, rfl, rfl, _, _, rfl, rfl, .inl ⟨by omega, by omega⟩, _, _, rfl, rfl, ⟨by decide, by decide⟩, _, _, rfl, rfl,
      _, rfl, a, _, _, nI p.i, rfl, rfl, SqT.of ha, at_nat (j := 0) rfl, _, _, rfl, rfl, ?_⟩
    show Q (.int ((p.j : Int) * ((m : Int) + 1) - (p.j : Int) * ((p.j : Int) - 1) / 2 + (p.i : Int))) H
    rw [ix_int hm hp]
    exact q
/-! ### three_numbers -/
abbrev nums (m : Nat) (p : Pl) : List V := [nI (number m p 0), nI (number m p 1), nI (number m p 2)]
theorem nums_at (m : Nat) (p : Pl) {c : Nat} (h : c < 3) : (nums m p)[c]? = some (nI (number m p c)) := by
  match c, h with
  | 0, _ => rfl
  | 1, _ => rfl
  | 2, _ => rfl
def spThree : Sp := fun vs H Q _ => ∃ (m : Nat) (a : Addr) (p : Pl), vs = [nI m, .ref a] ∧ p.i + p.j ≤ m ∧ H a = some (pT p) ∧ ∀ t, H t = none → Q (.ref t) (upd H t (.tup (nums m p)))
theorem scThree : FnScope ["m", "place"] ["m", "place"] (defScope s_three_numbers) := ⟨rfl, rfl, rfl, by decide +kernel, rfl, by decide +kernel, by decide +kernel⟩
theorem ok_three_numbers {f : Addr} {fd : FuncData} (F : Fun K "three_numbers" "three_numbers" s_three_numbers f fd) : FnOk P w K mg base CX0 1 f fd ["m", "place"] spThree := by
  refine F.ok scThree (fun vs H Q E h => ?_) (fun cdv A outer s H vs Q E hr h => ?_)
  · obtain ⟨m, a, p, rfl, _⟩ := h
    rfl
  · obtain ⟨m, a, p, rfl, hp, ha, q⟩ := h
    refine ⟨_, pss_one (ps_ret (pe_tup (pa_cons (pe_ix ix_tup (pv 1) pe_int (fun _ _ => rfl)) (pa_cons (pe_ix ix_tup (pv 1) pe_int (fun _ _ => rfl))
      (pa_cons (pe_op op_sub (pe_op op_sub (pv 0) (pe_ix ix_tup (pv 1) pe_int (fun _ _ => rfl))) (pe_ix ix_tup (pv 1) pe_int (fun _ _ => rfl))) pa_nil))))), ?_⟩
    refine ⟨_, rfl, a, _, _, nI p.i, rfl, rfl, SqT.of ha, at_nat (j := 0) rfl, _, rfl, a, _, _, nI p.j, rfl, rfl, SqT.of ha, at_nat (j := 1) rfl,
      _, rfl, _, rfl, a, _, _, nI p.i, rfl, rfl, SqT.of ha, at_nat (j := 0) rfl, _, _, rfl, rfl, _, rfl, a, _, _, nI p.j, rfl, rfl, SqT.of ha, at_nat (j := 1) rfl, _, _, rfl, rfl, ?_⟩
    refine ⟨by show 3 ≤ sizeLine; decide, fun t ht => ?_⟩
    have e : ((m : Int) - (p.i : Int) - (p.j : Int)) = ((number m p 2 : Nat) : Int) := by
      show _ = ((m - p.i - p.j : Nat) : Int)
      omega
    show Q (.ref t) (upd H t (.tup [nI p.i, nI p.j, .int ((m : Int) - (p.i : Int) - (p.j : Int))]))
    rw [e]
    exact q t ht
/-! ### is_map -/
def spIsMap (K : PySem.W.Frag) : Sp := fun vs H Q _ => ∃ (m : Nat) (a : Addr) (f : List Nat), vs = [nI m, .ref a] ∧ SqL K H a (lI f) ∧ Q (.bl (okAll m f)) H
theorem scIsMap : FnScope ["m", "f", "k"] ["m", "f"] (defScope s_is_map) := ⟨rfl, rfl, rfl, by decide +kernel, rfl, by decide +kernel, by decide +kernel⟩
theorem ok_is_map {f fS fC : Addr} {fd fdS fdC : FuncData} (F : Fun K "is_map" "is_map" s_is_map f fd) (FS : Fun K "is_size" "is_size" s_is_size fS fdS) (FC : Fun K "count_places" "count_places" s_count_places fC fdC)
    (GS : FnOk P w K mg base CX0 1 fS fdS ["m"] spIsSize) (GC : FnOk P w K mg base CX0 1 fC fdC ["m"] spCount) (bS : Binds K fdS ["m"] []) (bC : Binds K fdC ["m"] []) (gS : mg "is_size" = some (.ref fS)) (gC : mg "count_places" = some (.ref fC))
    (ml : mg "len" = none) (mr : mg "range" = none) : FnOk P w K mg base CX0 2 f fd ["m", "f"] (spIsMap K) := by
  refine F.ok scIsMap (fun vs H Q E h => ?_) (fun cdv A outer s H vs Q E hr h => ?_)
  · obtain ⟨m, a, ns, rfl, _⟩ := h
    rfl
  · obtain ⟨m, a, ns, rfl, ha, q⟩ := h
    refine ⟨_, pss_cons (ps_if (pt_not (pt_val (pe_call GS hr rfl gS FS.kp bS .nil pass0 (pa_cons (pv 0) pa_nil)))) (pss_one (ps_ret pe_bl)) pss_nil)
      (pss_cons (ps_if (pt_cmpR op_ne (pe_callB call_len_seq (by rfl) ml PySem.boot_len (pa_cons (pv 1) pa_nil)) (pe_op op_mul pe_int (pe_call GC hr rfl gC FC.kp bC .nil pass0 (pa_cons (pv 0) pa_nil))) (nomark _)) (pss_one (ps_ret pe_bl)) pss_nil)
      (pss_cons (ps_for PassesOwn.never rfl (pi_range1 rfl mr (pa_cons (pe_call GC hr rfl gC FC.kp bC .nil pass0 (pa_cons (pv 0) pa_nil)) pa_nil)) (pg_name (i := 2) scIsMap.nd rfl (.inl rfl))
        (pss_one (ps_if (pt_cmpR op_gt (pe_op op_add (pe_ix ix_list (pv 1) (pe_op op_mul pe_int (pv 2)) (fun _ _ => rfl)) (pe_ix ix_list (pv 1) (pe_op op_add (pe_op op_mul pe_int (pv 2)) pe_int) (fun _ _ => rfl))) (pv 0) (nomark _)) (pss_one (ps_ret pe_bl)) pss_nil)))
      (pss_one (ps_ret pe_bl)))), ?_⟩
    -- if not is_size(m)
    refine ⟨_, rfl, m, rfl, _, rfl, ?_⟩
    cases hM : okM m with
    | false =>
      have e : okAll m ns = false := by unfold okAll; rw [hM]; rfl
      rw [e] at q
      exact iteT q
    | true =>
      obtain ⟨h1, h9⟩ := okM_iff.mp hM
      refine iteF ?_
      -- if len(f) != 2 * count_places(m)
      refine ⟨_, rfl, a, _, rfl, .inl ha, _, rfl, m, rfl, h9, _, _, rfl, rfl, .inl ⟨by decide, by decide⟩, rfl, _, rfl, ?_⟩
      by_cases hl : ns.length = 2 * cnt m
      · have e1 : (!decide (V.int ((lI ns).length : Int) = V.int (2 * ((cnt m : Nat) : Int)))) = false := by
          rw [lI_len, hl, decide_eq_true (by congr 1)]
          rfl
        rw [e1]
        refine iteF ?_
        -- the loop
        have hp := cnt_le m (by omega)
        refine ⟨_, rfl, m, rfl, h9, _, rfl, by omega, by omega, for_range (n := (((cnt m : Nat) : Int)).toNat) (fun i σ H' => ∃ v : Option V, σ = [some (nI m), some (.ref a), v] ∧ H' = H ∧ ∀ n, n < i → ns.getD (2 * n) 0 + ns.getD (2 * n + 1) 0 ≤ m) ⟨none, rfl, rfl, fun n hn => absurd hn (Nat.not_lt_zero _)⟩ ?_ ?_⟩
        · rintro i σ H' hi ⟨v, rfl, rfl, hn⟩
          have hi : i < cnt m := by simpa using hi
          have a1 : (lI ns)[2 * i]? = some (nI (ns.getD (2 * i) 0)) := lI_at (by omega)
          have a2 : (lI ns)[2 * i + 1]? = some (nI (ns.getD (2 * i + 1) 0)) := lI_at (by omega)
          refine ⟨_, rfl, _, rfl, _, _, rfl, rfl, .inl ⟨by decide, by decide⟩, a, _, _, _, rfl, rfl, ha, at_of (j := 2 * i) (by omega) a1, _, rfl, _, rfl, _, _, rfl, rfl, .inl ⟨by decide, by decide⟩, _, _, rfl, rfl, a, _, _, _, rfl, rfl, ha, at_of (j := 2 * i + 1) (by omega) a2, _, _, rfl, rfl, _, rfl, _, _, rfl, rfl, _, rfl, ite2 (fun z => ?_) (fun z => ?_)⟩
          · have z : (m : Int) < ((ns.getD (2 * i) 0 : Nat) : Int) + ((ns.getD (2 * i + 1) 0 : Nat) : Int) := of_decide_eq_true z
            have e : okAll m ns = false := by
              cases ho : okAll m ns with
              | false => rfl
              | true =>
                unfold okAll at ho
                rw [Bool.and_eq_true] at ho
                have := (okMap_iff.mp ho.2).2 i hi
                omega
            rw [e] at q
            exact q
          · have z : ¬ (m : Int) < ((ns.getD (2 * i) 0 : Nat) : Int) + ((ns.getD (2 * i + 1) 0 : Nat) : Int) := fun y => z (decide_eq_true y)
            refine ⟨_, rfl, rfl, fun n hn' => ?_⟩
            by_cases en : n = i
            · subst en
              omega
            · exact hn n (by omega)
        · rintro σ H' ⟨v, rfl, rfl, hn⟩
          have hn : ∀ n, n < cnt m → ns.getD (2 * n) 0 + ns.getD (2 * n + 1) 0 ≤ m := fun n h => hn n (by simpa using h)
          have e : okAll m ns = true := by
            unfold okAll
            rw [hM, okMap_iff.mpr ⟨hl, hn⟩]
            rfl
          rw [e] at q
          exact q
      · have e1 : (!decide (V.int ((lI ns).length : Int) = V.int (2 * ((cnt m : Nat) : Int)))) = true := by
          rw [lI_len, decide_eq_false (by intro z; have := V.int.inj z; omega)]
          rfl
        rw [e1]
        have e : okAll m ns = false := by
          cases ho : okAll m ns with
          | false => rfl
          | true =>
            unfold okAll at ho
            rw [Bool.and_eq_true] at ho
            exact absurd (okMap_iff.mp ho.2).1 hl
        rw [e] at q
        exact iteT q
/-! ### sent_to -/
def spSent (K : PySem.W.Frag) : Sp := fun vs H Q _ => ∃ (m : Nat) (a b : Addr) (f : List Nat) (p : Pl), vs = [nI m, .ref a, .ref b] ∧ m ≤ 9 ∧ okMap m f = true ∧ SqL K H a (lI f) ∧ p.i + p.j ≤ m ∧ H b = some (pT p) ∧ ∀ t, H t = none → Q (.ref t) (upd H t (pT (sent m f p)))
theorem scSent : FnScope ["m", "f", "place", "k"] ["m", "f", "place"] (defScope s_sent_to) := ⟨rfl, rfl, rfl, by decide +kernel, rfl, by decide +kernel, by decide +kernel⟩
theorem ok_sent_to {f fI : Addr} {fd fdI : FuncData} (F : Fun K "sent_to" "sent_to" s_sent_to f fd) (FI : Fun K "place_index" "place_index" s_place_index fI fdI)
    (GI : FnOk P w K mg base CX0 1 fI fdI ["m", "place"] spIndex) (bI : Binds K fdI ["m", "place"] []) (gI : mg "place_index" = some (.ref fI)) : FnOk P w K mg base CX0 2 f fd ["m", "f", "place"] (spSent K) := by
  refine F.ok scSent (fun vs H Q E h => ?_) (fun cdv A outer s H vs Q E hr h => ?_)
  · obtain ⟨m, a, b, ns, p, rfl, _⟩ := h
    rfl
  · obtain ⟨m, a, b, ns, p, rfl, h9, ho, ha, hp, hb, q⟩ := h
    refine ⟨_, pss_cons (ps_set (i := 3) scSent.nd rfl (.inl rfl) (pe_call GI hr rfl gI FI.kp bI .nil pass0 (pa_cons (pv 0) (pa_cons (pv 2) pa_nil))))
      (pss_one (ps_ret (pe_tup (pa_cons (pe_ix ix_list (pv 1) (pe_op op_mul pe_int (pv 3)) (fun _ _ => rfl)) (pa_cons (pe_ix ix_list (pv 1) (pe_op op_add (pe_op op_mul pe_int (pv 3)) pe_int) (fun _ _ => rfl)) pa_nil))))), ?_⟩
    have hl := (okMap_iff.mp ho).1
    have hn := no_cnt h9 hp
    have a1 : (lI ns)[2 * noOf m p]? = some (nI (sent m ns p).i) := lI_at (by omega)
    have a2 : (lI ns)[2 * noOf m p + 1]? = some (nI (sent m ns p).j) := lI_at (by omega)
    refine ⟨_, rfl, _, rfl, m, b, p, rfl, h9, hp, hb, ?_⟩
    refine ⟨_, rfl, _, rfl, _, _, rfl, rfl, .inl ⟨by decide, by decide⟩, a, _, _, _, rfl, rfl, ha, at_of (j := 2 * noOf m p) (by omega) a1, _, rfl, _, rfl, _, _, rfl, rfl, .inl ⟨by decide, by decide⟩, _, _, rfl, rfl, a, _, _, _, rfl, rfl, ha, at_of (j := 2 * noOf m p + 1) (by omega) a2, ?_⟩
    exact ⟨by show 2 ≤ sizeLine; decide, fun t ht => q t ht⟩
/-! ### map_colour -/
theorem fits_bool (m : Nat) (f : List Nat) (p : Pl) (c : Nat) : fits m f p c = ((!decide (nI (number m p c) = V.int 0)) && decide (((number m (sent m f p) c : Nat) : Int) ≤ ((number m p c : Nat) : Int))) := by
  unfold fits
  congr 1
  · rw [bne, Bool.beq_eq_decide_eq]
    congr 1
    rw [Bool.eq_iff_iff, decide_eq_true_iff, decide_eq_true_iff]
    constructor
    · intro h
      rw [h]
      rfl
    · intro h
      have := V.int.inj h
      omega
  · rw [Bool.eq_iff_iff, decide_eq_true_iff, decide_eq_true_iff]
    omega
def spColour (K : PySem.W.Frag) : Sp := fun vs H Q _ => ∃ (m : Nat) (a b : Addr) (f : List Nat) (p : Pl), vs = [nI m, .ref a, .ref b] ∧ 1 ≤ m ∧ m ≤ 9 ∧ okMap m f = true ∧ SqL K H a (lI f) ∧ p.i + p.j ≤ m ∧ H b = some (pT p) ∧ ∀ H', Same H H' → Q (nI (keeps m f p)) H'
theorem scColour : FnScope ["m", "f", "place", "here", "there", "fitting", "c"] ["m", "f", "place"] (defScope s_map_colour) := ⟨rfl, rfl, rfl, by decide +kernel, rfl, by decide +kernel, by decide +kernel⟩
theorem ok_map_colour {f f3 fT : Addr} {fd fd3 fdT : FuncData} (F : Fun K "map_colour" "map_colour" s_map_colour f fd) (F3 : Fun K "three_numbers" "three_numbers" s_three_numbers f3 fd3) (FT : Fun K "sent_to" "sent_to" s_sent_to fT fdT)
    (G3 : FnOk P w K mg base CX0 1 f3 fd3 ["m", "place"] spThree) (GT : FnOk P w K mg base CX0 2 fT fdT ["m", "f", "place"] (spSent K)) (b3 : Binds K fd3 ["m", "place"] []) (bT : Binds K fdT ["m", "f", "place"] [])
    (g3 : mg "three_numbers" = some (.ref f3)) (gT : mg "sent_to" = some (.ref fT)) (mr : mg "range" = none) : FnOk P w K mg base CX0 3 f fd ["m", "f", "place"] (spColour K) := by
  refine F.ok scColour (fun vs H Q E h => ?_) (fun cdv A outer s H vs Q E hr h => ?_)
  · obtain ⟨m, a, b, ns, p, rfl, _⟩ := h
    rfl
  · obtain ⟨m, a, b, ns, p, rfl, h1, h9, ho, ha, hp, hb, q⟩ := h
    have hr1 : Room 1 _ := hr.mono (by decide)
    refine ⟨_, pss_cons (ps_set (i := 3) scColour.nd rfl (.inr rfl) (pe_call G3 hr1 rfl g3 F3.kp b3 .nil pass0 (pa_cons (pv 0) (pa_cons (pv 2) pa_nil))))
      (pss_cons (ps_set (i := 4) scColour.nd rfl (.inr rfl) (pe_call G3 hr1 rfl g3 F3.kp b3 .nil pass0 (pa_cons (pv 0) (pa_cons (pe_call GT hr rfl gT FT.kp bT .nil pass0 (pa_cons (pv 0) (pa_cons (pv 1) (pa_cons (pv 2) pa_nil)))) pa_nil))))
      (pss_cons (ps_setLc (i := 5) (own := [("c", 6)]) (g := gName 6)
          (tt := tAnd (tTest (tOp rNe (tOp (rIxT K) (tVar 3) (tVar 6)) (tC (.int 0)))) (tTest (tOp (rI0 fun i j => .bl (decide (i ≤ j))) (tOp (rIxT K) (tVar 4) (tVar 6)) (tOp (rIxT K) (tVar 3) (tVar 6))))) (te := tVar 6)
          rfl scColour.nd rfl rfl (sw_true rfl rfl rfl (by decide +kernel)) (pi_range1 rfl mr (pa_cons pe_int pa_nil)) (blkOk_by (own := [("c", 6)]) (N := ["m", "f", "place", "here", "there", "fitting", "c"]) (sc := defScope s_map_colour) (by decide +kernel))
          (fun _ _ _ _ _ => pg_name (i := 6) scColour.nd rfl (.inl rfl))
          (fun _ _ _ _ _ => pts_one (PW.pt (pw_and (pt_cmpR op_ne (pe_ix ix_tup (pv 3) (pv 6) (fun _ _ => rfl)) pe_int (nomark _)) (pw_and1 (pt_cmpR op_le (pe_ix ix_tup (pv 4) (pv 6) (fun _ _ => rfl)) (pe_ix ix_tup (pv 3) (pv 6) (fun _ _ => rfl)) (nomark _))))))
          (fun _ _ _ _ _ => pv 6))
      (pss_one (ps_ret (pe_ix ix_list (pv 5) pe_int (fun _ _ => rfl)))))), ?_⟩
    -- here
    refine ⟨_, rfl, _, rfl, m, b, p, rfl, hp, hb, fun h nh => ?_⟩
    have s1 := same_upd (o := .tup (nums m p)) nh
    have eh : upd H h (.tup (nums m p)) h = some (.tup (nums m p)) := upd_same
    generalize upd H h (.tup (nums m p)) = H1 at s1 eh
    -- there
    refine ⟨_, rfl, _, rfl, _, rfl, _, rfl, m, a, b, ns, p, rfl, h9, ho, s1.seq ha, hp, s1 _ _ hb, fun t1 n1 => ⟨m, t1, sent m ns p, rfl, sent_ok h9 ho hp, upd_same, fun t nt => ?_⟩⟩
    have s2 := same_upd (o := pT (sent m ns p)) n1
    generalize upd H1 t1 (pT (sent m ns p)) = H2 at s2 nt
    have s3 := s2.trans (same_upd (o := .tup (nums m (sent m ns p))) nt)
    have et : upd H2 t (.tup (nums m (sent m ns p))) t = some (.tup (nums m (sent m ns p))) := upd_same
    generalize upd H2 t (.tup (nums m (sent m ns p))) = H3 at s3 et
    have eh3 := s3 _ _ eh
    -- fitting
    refine ⟨3, rfl, by decide, by decide, fun D nD => ?_⟩
    refine lc_range (n := 3) (fun c H' => Same H3 H' ∧ H' D = some (.lst (lI (fitting m ns p c)))) ⟨same_upd nD, upd_same⟩ ?_ ?_
    · rintro c H' hc ⟨s4, eD⟩
      have ah : atI (nums m p) (0 + (c : Int)) = some (nI (number m p c)) := at_of (j := c) (by omega) (nums_at m _ hc)
      have at' : atI (nums m (sent m ns p)) (0 + (c : Int)) = some (nI (number m (sent m ns p) c)) := at_of (j := c) (by omega) (nums_at m _ hc)
      have zh : SqT K H' h (nums m p) := SqT.of (s4 _ _ eh3)
      have zt : SqT K H' t (nums m (sent m ns p)) := SqT.of (s4 _ _ et)
      have fb := fits_bool m ns p c
      have hlen : (lI (fitting m ns p c)).length < sizeLine := by
        rw [lI_len]
        exact Nat.lt_of_le_of_lt (fitting_len m ns p c) (small1000 (by omega))
      refine ⟨rfl, _, rfl, _, rfl, h, _, _, _, rfl, rfl, zh, ah, rfl, _, rfl, ?_⟩
      cases e1 : (!decide (nI (number m p c) = V.int 0)) with
      | false =>
        rw [e1, Bool.false_and] at fb
        refine iteF ?_
        refine iteF ⟨s4, ?_⟩
        rw [fitting_succ, fb, if_neg Bool.false_ne_true, List.append_nil]
        exact eD
      | true =>
        rw [e1, Bool.true_and] at fb
        refine iteT ?_
        refine ⟨_, rfl, _, rfl, t, _, _, _, rfl, rfl, zt, at', _, rfl, _, rfl, h, _, _, _, rfl, rfl, zh, ah, _, _, rfl, rfl, _, rfl, ?_⟩
        cases e2 : decide (((number m (sent m ns p) c : Nat) : Int) ≤ ((number m p c : Nat) : Int)) with
        | false =>
          rw [e2] at fb
          refine iteBF rfl ⟨s4, ?_⟩
          rw [fitting_succ, fb, if_neg Bool.false_ne_true, List.append_nil]
          exact eD
        | true =>
          rw [e2] at fb
          refine iteBT rfl ⟨_, rfl, _, eD, hlen, same_mut s4 nD, ?_⟩
          rw [upd_same, fitting_succ, fb, if_pos rfl, lI_app]
          show some (HO.lst (_ ++ [V.int (0 + (c : Int))])) = _
          rw [Int.zero_add]
          rfl
    · rintro H' ⟨s4, eD⟩
      refine ⟨_, rfl, D, _, _, _, rfl, rfl, SqL.of eD, at_of (j := 0) rfl (v := nI (keeps m ns p)) ?_, q H' (s1.trans (s3.trans s4))⟩
      rw [List.getElem?_map, fitting_at h1 hp (sent_ok h9 ho hp)]
      rfl
/-! ### colours_of_map -/
def spColours (K : PySem.W.Frag) : Sp := fun vs H Q _ => ∃ (m : Nat) (a : Addr) (f : List Nat), vs = [nI m, .ref a] ∧ 1 ≤ m ∧ m ≤ 9 ∧ okMap m f = true ∧ SqL K H a (lI f) ∧ ∀ (H' : Hp) (l : Addr), Same H H' → H l = none → H' l = some (.lst (lI (Kzs3.mapColours m f))) → Q (.ref l) H'
theorem scColours : FnScope ["m", "f", "place"] ["m", "f"] (defScope s_colours_of_map) := ⟨rfl, rfl, rfl, by decide +kernel, rfl, by decide +kernel, by decide +kernel⟩
theorem ok_colours_of_map {f fA fC : Addr} {fd fdA fdC : FuncData} (F : Fun K "colours_of_map" "colours_of_map" s_colours_of_map f fd) (FA : Fun K "all_places" "all_places" s_all_places fA fdA) (FC : Fun K "map_colour" "map_colour" s_map_colour fC fdC)
    (GA : FnOk P w K mg base CX0 1 fA fdA ["m"] spPlaces) (GC : FnOk P w K mg base CX0 3 fC fdC ["m", "f", "place"] (spColour K)) (bA : Binds K fdA ["m"] []) (bC : Binds K fdC ["m", "f", "place"] [])
    (gA : mg "all_places" = some (.ref fA)) (gC : mg "map_colour" = some (.ref fC)) : FnOk P w K mg base CX0 4 f fd ["m", "f"] (spColours K) := by
  refine F.ok scColours (fun vs H Q E h => ?_) (fun cdv A outer s H vs Q E hr h => ?_)
  · obtain ⟨m, a, ns, rfl, _⟩ := h
    rfl
  · obtain ⟨m, a, ns, rfl, h1, h9, ho, ha, q⟩ := h
    have hr1 : Room 1 _ := hr.mono (by decide)
    refine ⟨_, pss_one (ps_ret (pe_lc (own := [("place", 2)]) (g := gName 2) (tt := tYes) (te := tCall (spColour K) [] E0 (tCons (tVar 0) (tCons (tVar 1) (tCons (tVar 2) tNil)))) rfl scColours.nd
      (pi_list (pe_call GA hr1 rfl gA FA.kp bA .nil pass0 (pa_cons (pv 0) pa_nil))) (blkOk_by (own := [("place", 2)]) (N := ["m", "f", "place"]) (sc := defScope s_colours_of_map) (by decide +kernel))
      (fun _ _ _ _ _ => pg_name (i := 2) scColours.nd rfl (.inl rfl)) (fun _ _ _ _ _ => pts_nil)
      (fun _ _ _ _ _ => pe_call GC hr rfl gC FC.kp bC .nil pass0 (pa_cons (pv 0) (pa_cons (pv 1) (pa_cons (pv 2) pa_nil)))))), ?_⟩
    refine ⟨_, rfl, m, rfl, h9, fun H1 l as s1 nl el pa => ⟨l, rfl, ⟨_, SqL.of el⟩, fun D nD => ?_⟩⟩
    refine lc_list (K := K) (a := l) (xs := as.map V.ref) (fun c H' => Same H1 H' ∧ H' D = some (.lst (lI ((Kzs3.mapColours m ns).take c)))) ⟨same_upd nD, upd_same⟩ (fun i H' _ ⟨s2, _⟩ => SqL.of (s2 _ _ el)) ?_ ?_
    · rintro c x H' hc ⟨s2, eD⟩
      have hk : c < as.length := by
        rw [List.getElem?_map] at hc
        cases z : as[c]? with
        | none => rw [z] at hc; cases hc
        | some y => exact (List.getElem?_eq_some_iff.mp z).1
      have hk2 : c < (places m).length := by rw [← pa.1]; exact hk
      obtain ⟨y, ey, hy⟩ := pa.2 c _ (List.getElem?_eq_getElem hk2)
      have ex : x = .ref y := by
        rw [List.getElem?_map, ey] at hc
        exact (Option.some.inj hc).symm
      subst ex
      have hp : (places m)[c].i + (places m)[c].j ≤ m := mem_places.mp (List.getElem_mem hk2)
      refine ⟨rfl, _, rfl, _, rfl, _, rfl, m, a, y, ns, (places m)[c], rfl, h1, h9, ho, s2.seq (s1.seq ha), hp, s2 _ _ hy, fun H4 s4 => ?_⟩
      refine ⟨_, s4 _ _ eD, ?_, same_mut (s2.trans s4) nD, ?_⟩
      · rw [lI_len]
        refine Nat.lt_of_le_of_lt (List.length_take_le _ _) (small1000 ?_)
        have := cnt_le m (by omega)
        unfold cnt at this
        omega
      · rw [upd_same, take_snoc (x := keeps m ns (places m)[c]) ?_, lI_app]
        · rfl
        · unfold Kzs3.mapColours
          rw [List.getElem?_map, List.getElem?_eq_getElem hk2]
          rfl
    · rintro H' ⟨s2, eD⟩
      refine q H' D (s1.trans s2) (s1.free nD) ?_
      rw [eD, List.length_map, pa.1, List.take_of_length_le (by unfold Kzs3.mapColours; rw [List.length_map]; exact Nat.le_refl _)]
/-! ### map_colours -/
def spMapColours (K : PySem.W.Frag) : Sp := fun vs H Q _ => ∃ (m : Nat) (a : Addr) (f : List Nat), vs = [nI m, .ref a] ∧ SqL K H a (lI f) ∧ ∀ (H' : Hp) (p : Addr), H' p = some (.lst ((aL (.mapColours m f)).map V.int)) → Q (.ref p) H'
theorem scMapColours : FnScope ["m", "f"] ["m", "f"] (defScope s_map_colours) := ⟨rfl, rfl, rfl, by decide +kernel, rfl, by decide +kernel, by decide +kernel⟩
theorem ok_map_colours {f fM fN fC : Addr} {fd fdM fdN fdC : FuncData} {t22 : Tok} (F : Fun K "map_colours" "map_colours" s_map_colours f fd) (FM : Fun K "is_map" "is_map" s_is_map fM fdM) (FN : Fun K "count_places" "count_places" s_count_places fN fdN) (FC : Fun K "colours_of_map" "colours_of_map" s_colours_of_map fC fdC)
    (GM : FnOk P w K mg base CX0 2 fM fdM ["m", "f"] (spIsMap K)) (GN : FnOk P w K mg base CX0 1 fN fdN ["m"] spCount) (GC : FnOk P w K mg base CX0 4 fC fdC ["m", "f"] (spColours K)) (bM : Binds K fdM ["m", "f"] []) (bN : Binds K fdN ["m"] []) (bC : Binds K fdC ["m", "f"] [])
    (gM : mg "is_map" = some (.ref fM)) (gN : mg "count_places" = some (.ref fN)) (gC : mg "colours_of_map" = some (.ref fC)) (g22 : mg "NOT_AS_TOLD" = some (.int (-22) t22)) : FnOk P w K mg base CX0 5 f fd ["m", "f"] (spMapColours K) := by
  refine F.ok scMapColours (fun vs H Q E h => ?_) (fun cdv A outer s H vs Q E hr h => ?_)
  · obtain ⟨m, a, ns, rfl, _⟩ := h
    rfl
  · obtain ⟨m, a, ns, rfl, ha, q⟩ := h
    have hr1 : Room 1 _ := hr.mono (by decide)
    have hr2 : Room 2 _ := hr.mono (by decide)
    refine ⟨_, pss_cons (ps_if (pt_not (pt_val (pe_call GM hr2 rfl gM FM.kp bM .nil pass0 (pa_cons (pv 0) (pa_cons (pv 1) pa_nil))))) (pss_one (ps_ret (pe_lst (pa_cons (pe_glob (v := .int (-22)) rfl g22 ⟨_, rfl⟩) pa_nil)))) pss_nil)
      (pss_one (ps_ret (pe_op op_cat (pe_lst (pa_cons (pe_call GN hr1 rfl gN FN.kp bN .nil pass0 (pa_cons (pv 0) pa_nil)) pa_nil)) (pe_call GC hr rfl gC FC.kp bC .nil pass0 (pa_cons (pv 0) (pa_cons (pv 1) pa_nil)))))), ?_⟩
    refine ⟨_, rfl, _, rfl, m, a, ns, rfl, ha, _, rfl, ?_⟩
    cases hM : okAll m ns with
    | false =>
      refine iteT ⟨by show 1 ≤ sizeLine; decide, fun p hp => ?_⟩
      refine q _ p ?_
      have e : aL (.mapColours m ns) = [-22] := by
        unfold aL
        rw [ans_colours, if_pos (okAll_f hM)]
        rfl
      rw [e]
      exact upd_same
    | true =>
      obtain ⟨hm, ho⟩ : okM m = true ∧ okMap m ns = true := by unfold okAll at hM; rwa [Bool.and_eq_true] at hM
      obtain ⟨h1, h9⟩ := okM_iff.mp hm
      refine iteF ?_
      refine ⟨_, rfl, m, rfl, h9, by show 1 ≤ sizeLine; decide, fun l nl => ⟨_, rfl, _, rfl, m, a, ns, rfl, h1, h9, ho, (same_upd nl).seq ha, fun H' D s1 nD eD => ?_⟩⟩
      have el : H' l = some (.lst [nI (cnt m)]) := s1 _ _ upd_same
      refine ⟨l, D, _, _, rfl, rfl, el, eD, ?_, fun p np => q _ p ?_⟩
      · have hc := cnt_le m (by omega)
        unfold cnt at hc
        rw [lI_len]
        unfold Kzs3.mapColours
        rw [List.length_map]
        exact Nat.le_of_lt (small1000 (show 1 + (places m).length ≤ 1000 by omega))
      · rw [upd_same]
        have e : aL (.mapColours m ns) = ((cnt m : Nat) : Int) :: (Kzs3.mapColours m ns).map (fun x : Nat => (x : Int)) := by
          unfold aL
          rw [ans_colours, if_neg (okAll_t hM)]
          unfold Kzs1.told Kzs1.ints Kzs3.mapColours cnt
          rw [List.length_map, List.length_map]
        rw [e, List.map_cons, List.map_map]
        rfl
/-! ### the request -/
theorem int_nat {z : Int} (h : Codec.inInt 0 4294967295 z = true) : ∃ n : Nat, z = (n : Int) := by
  have q : 0 ≤ z ∧ z ≤ 4294967295 := by
    unfold Codec.inInt at h
    simpa using h
  exact ⟨z.toNat, by omega⟩
theorem ints_nats : ∀ {l : List Int}, l.all (Codec.inInt 0 4294967295) = true → ∃ f : List Nat, l = f.map fun x : Nat => (x : Int)
  | [], _ => ⟨[], rfl⟩
  | z :: r, h => by
    rw [List.all_cons, Bool.and_eq_true] at h
    obtain ⟨n, rfl⟩ := int_nat h.1
    obtain ⟨f, rfl⟩ := ints_nats h.2
    exact ⟨n :: f, rfl⟩

theorem request {K : PySem.W.Frag} {H : Hp} {xs : List V} {a : Codec.denoteAll PySem.Challenge.rw_fixedcakes_s01_map_colours.args} (hwi : Codec.withinAll PySem.Challenge.rw_fixedcakes_s01_map_colours.args a = true) (hx : DwAll K H xs (Codec.encAll PySem.Challenge.rw_fixedcakes_s01_map_colours.args a)) :
    spMapColours K xs H (fun v H' => Dw K H' v (PySem.Challenge.rw_fixedcakes_s01_map_colours.ret.enc (Codec.app PySem.Challenge.rw_fixedcakes_s01_map_colours.args PySem.Challenge.rw_fixedcakes_s01_map_colours.f a))) fun _ _ _ => False := by
  obtain ⟨m, f, u⟩ := a
  have q : (Codec.inInt 0 4294967295 m && ((Codec.inLen 0 200 f && f.all (Codec.inInt 0 4294967295)) && true)) = true := hwi
  simp only [Bool.and_eq_true] at q
  obtain ⟨q_m, ⟨r_f, q_f⟩, _⟩ := q
  obtain ⟨m, rfl⟩ := int_nat q_m
  obtain ⟨f, rfl⟩ := ints_nats q_f
  cases hx with
  | cons h_m hx =>
    cases hx with
    | cons h_f hx =>
      cases hx
      cases h_m
      cases h_f with
      | lst hs_f ha_f =>
        have e := L2.ints_dw _ _ ha_f
        subst e
        rw [List.map_map] at hs_f
        refine ⟨m, _, f, rfl, hs_f, fun H' p hp => ?_⟩
        have e : PyKzs3.map_colours (m : Int) (f.map fun x : Nat => (x : Int)) = aL (.mapColours m f) := by
          show aL (.mapColours (m : Int).toNat (Kzs3Neutral.natsOf (f.map fun x : Nat => (x : Int)))) = _
          rw [natsOf_cast]
          rfl
        show Dw K H' (.ref p) (.list ((PyKzs3.map_colours (m : Int) (f.map fun x : Nat => (x : Int))).map WData.int))
        rw [e]
        exact .lst (L2.SqL.of hp) (L2.dw_ints _)
end
/-! ### what the top has written -/
theorem all_mk {P : Program} {w : World} {K : PySem.W.Frag} {h : Heap} {mg : Str → Option Value} {fa : Addr} (X : K.In h) (G : h.Ns mainGlobals mg) (hfa : mg "map_colours" = some (.ref fa))
    {f1 : Addr} {od1 an1 : Option Addr} {sl1 : Array (Option Value)} {oc1 kV1 dc1 pm1 cd1 ct1 : Value}
    {f2 : Addr} {od2 an2 : Option Addr} {sl2 : Array (Option Value)} {oc2 kV2 dc2 pm2 cd2 ct2 : Value}
    {f3 : Addr} {od3 an3 : Option Addr} {sl3 : Array (Option Value)} {oc3 kV3 dc3 pm3 cd3 ct3 : Value}
    {f4 : Addr} {od4 an4 : Option Addr} {sl4 : Array (Option Value)} {oc4 kV4 dc4 pm4 cd4 ct4 : Value}
    {f5 : Addr} {od5 an5 : Option Addr} {sl5 : Array (Option Value)} {oc5 kV5 dc5 pm5 cd5 ct5 : Value}
    {f6 : Addr} {od6 an6 : Option Addr} {sl6 : Array (Option Value)} {oc6 kV6 dc6 pm6 cd6 ct6 : Value}
    {f7 : Addr} {od7 an7 : Option Addr} {sl7 : Array (Option Value)} {oc7 kV7 dc7 pm7 cd7 ct7 : Value}
    {f8 : Addr} {od8 an8 : Option Addr} {sl8 : Array (Option Value)} {oc8 kV8 dc8 pm8 cd8 ct8 : Value}
    {f9 : Addr} {od9 an9 : Option Addr} {sl9 : Array (Option Value)} {oc9 kV9 dc9 pm9 cd9 ct9 : Value}
    {f10 : Addr} {od10 an10 : Option Addr} {sl10 : Array (Option Value)} {oc10 kV10 dc10 pm10 cd10 ct10 : Value}
    {t_NOT_AS_TOLD : Tok} (g_NOT_AS_TOLD : PySem.W.nsIn K mainGlobals "NOT_AS_TOLD" = some (some (.int (-22) t_NOT_AS_TOLD)))
    {t_GREATEST_SIZE : Tok} (g_GREATEST_SIZE : PySem.W.nsIn K mainGlobals "GREATEST_SIZE" = some (some (.int (9) t_GREATEST_SIZE)))
    (a1 : PySem.W.nsIn K mainGlobals "is_size" = some (some (.ref f1))) (l1 : K.lookup f1 = some ⟨oc1, od1, .func (PySem.W.fnOf "is_size" "is_size" (defArgs s_is_size) (defBody s_is_size) (defScope s_is_size) .none kV1 dc1 pm1 an1 cd1 ct1), sl1⟩) (c1 : PySem.W.codeIn K cd1 "is_size" = true) (k1 : PySem.W.keepIn K (.ref f1) = true)
    (a2 : PySem.W.nsIn K mainGlobals "count_places" = some (some (.ref f2))) (l2 : K.lookup f2 = some ⟨oc2, od2, .func (PySem.W.fnOf "count_places" "count_places" (defArgs s_count_places) (defBody s_count_places) (defScope s_count_places) .none kV2 dc2 pm2 an2 cd2 ct2), sl2⟩) (c2 : PySem.W.codeIn K cd2 "count_places" = true) (k2 : PySem.W.keepIn K (.ref f2) = true)
    (a3 : PySem.W.nsIn K mainGlobals "all_places" = some (some (.ref f3))) (l3 : K.lookup f3 = some ⟨oc3, od3, .func (PySem.W.fnOf "all_places" "all_places" (defArgs s_all_places) (defBody s_all_places) (defScope s_all_places) .none kV3 dc3 pm3 an3 cd3 ct3), sl3⟩) (c3 : PySem.W.codeIn K cd3 "all_places" = true) (k3 : PySem.W.keepIn K (.ref f3) = true)
    (a4 : PySem.W.nsIn K mainGlobals "place_index" = some (some (.ref f4))) (l4 : K.lookup f4 = some ⟨oc4, od4, .func (PySem.W.fnOf "place_index" "place_index" (defArgs s_place_index) (defBody s_place_index) (defScope s_place_index) .none kV4 dc4 pm4 an4 cd4 ct4), sl4⟩) (c4 : PySem.W.codeIn K cd4 "place_index" = true) (k4 : PySem.W.keepIn K (.ref f4) = true)
    (a5 : PySem.W.nsIn K mainGlobals "three_numbers" = some (some (.ref f5))) (l5 : K.lookup f5 = some ⟨oc5, od5, .func (PySem.W.fnOf "three_numbers" "three_numbers" (defArgs s_three_numbers) (defBody s_three_numbers) (defScope s_three_numbers) .none kV5 dc5 pm5 an5 cd5 ct5), sl5⟩) (c5 : PySem.W.codeIn K cd5 "three_numbers" = true) (k5 : PySem.W.keepIn K (.ref f5) = true)
    (a6 : PySem.W.nsIn K mainGlobals "is_map" = some (some (.ref f6))) (l6 : K.lookup f6 = some ⟨oc6, od6, .func (PySem.W.fnOf "is_map" "is_map" (defArgs s_is_map) (defBody s_is_map) (defScope s_is_map) .none kV6 dc6 pm6 an6 cd6 ct6), sl6⟩) (c6 : PySem.W.codeIn K cd6 "is_map" = true) (k6 : PySem.W.keepIn K (.ref f6) = true)
    (a7 : PySem.W.nsIn K mainGlobals "sent_to" = some (some (.ref f7))) (l7 : K.lookup f7 = some ⟨oc7, od7, .func (PySem.W.fnOf "sent_to" "sent_to" (defArgs s_sent_to) (defBody s_sent_to) (defScope s_sent_to) .none kV7 dc7 pm7 an7 cd7 ct7), sl7⟩) (c7 : PySem.W.codeIn K cd7 "sent_to" = true) (k7 : PySem.W.keepIn K (.ref f7) = true)
    (a8 : PySem.W.nsIn K mainGlobals "map_colour" = some (some (.ref f8))) (l8 : K.lookup f8 = some ⟨oc8, od8, .func (PySem.W.fnOf "map_colour" "map_colour" (defArgs s_map_colour) (defBody s_map_colour) (defScope s_map_colour) .none kV8 dc8 pm8 an8 cd8 ct8), sl8⟩) (c8 : PySem.W.codeIn K cd8 "map_colour" = true) (k8 : PySem.W.keepIn K (.ref f8) = true)
    (a9 : PySem.W.nsIn K mainGlobals "colours_of_map" = some (some (.ref f9))) (l9 : K.lookup f9 = some ⟨oc9, od9, .func (PySem.W.fnOf "colours_of_map" "colours_of_map" (defArgs s_colours_of_map) (defBody s_colours_of_map) (defScope s_colours_of_map) .none kV9 dc9 pm9 an9 cd9 ct9), sl9⟩) (c9 : PySem.W.codeIn K cd9 "colours_of_map" = true) (k9 : PySem.W.keepIn K (.ref f9) = true)
    (a10 : PySem.W.nsIn K mainGlobals "map_colours" = some (some (.ref f10))) (l10 : K.lookup f10 = some ⟨oc10, od10, .func (PySem.W.fnOf "map_colours" "map_colours" (defArgs s_map_colours) (defBody s_map_colours) (defScope s_map_colours) .none kV10 dc10 pm10 an10 cd10 ct10), sl10⟩) (c10 : PySem.W.codeIn K cd10 "map_colours" = true) (k10 : PySem.W.keepIn K (.ref f10) = true)
    (z_len : PySem.W.nsIn K mainGlobals "len" = some none)
    (z_range : PySem.W.nsIn K mainGlobals "range" = some none)
    : ∃ fd : FuncData, (∀ (s : Shared) (us : List Value), us.length = (["m", "f"] : List Str).length → BindsTo s fd ⟨us, []⟩ ((["m", "f"] : List Str).zip us)) ∧ ∀ base : Heap, K.In base → base.Ns mainGlobals mg → FnOk P w K mg base CX0 5 fa fd ["m", "f"] (spMapColours K) := by
  have e := hfa.symm.trans (PySem.W.mg_of X G a10)
  cases e
  have F_is_size := fun_mk (st := s_is_size) l1 c1 k1
  have m_is_size := PySem.W.mg_of X G a1
  have b_is_size := F_is_size.binds (ps := ["m"]) fun _ _ _ _ _ _ us hl => match us, hl with | [_], _ => rfl
  have F_count_places := fun_mk (st := s_count_places) l2 c2 k2
  have m_count_places := PySem.W.mg_of X G a2
  have b_count_places := F_count_places.binds (ps := ["m"]) fun _ _ _ _ _ _ us hl => match us, hl with | [_], _ => rfl
  have F_all_places := fun_mk (st := s_all_places) l3 c3 k3
  have m_all_places := PySem.W.mg_of X G a3
  have b_all_places := F_all_places.binds (ps := ["m"]) fun _ _ _ _ _ _ us hl => match us, hl with | [_], _ => rfl
  have F_place_index := fun_mk (st := s_place_index) l4 c4 k4
  have m_place_index := PySem.W.mg_of X G a4
  have b_place_index := F_place_index.binds (ps := ["m", "place"]) fun _ _ _ _ _ _ us hl => match us, hl with | [_, _], _ => rfl
  have F_three_numbers := fun_mk (st := s_three_numbers) l5 c5 k5
  have m_three_numbers := PySem.W.mg_of X G a5
  have b_three_numbers := F_three_numbers.binds (ps := ["m", "place"]) fun _ _ _ _ _ _ us hl => match us, hl with | [_, _], _ => rfl
  have F_is_map := fun_mk (st := s_is_map) l6 c6 k6
  have m_is_map := PySem.W.mg_of X G a6
  have b_is_map := F_is_map.binds (ps := ["m", "f"]) fun _ _ _ _ _ _ us hl => match us, hl with | [_, _], _ => rfl
  have F_sent_to := fun_mk (st := s_sent_to) l7 c7 k7
  have m_sent_to := PySem.W.mg_of X G a7
  have b_sent_to := F_sent_to.binds (ps := ["m", "f", "place"]) fun _ _ _ _ _ _ us hl => match us, hl with | [_, _, _], _ => rfl
  have F_map_colour := fun_mk (st := s_map_colour) l8 c8 k8
  have m_map_colour := PySem.W.mg_of X G a8
  have b_map_colour := F_map_colour.binds (ps := ["m", "f", "place"]) fun _ _ _ _ _ _ us hl => match us, hl with | [_, _, _], _ => rfl
  have F_colours_of_map := fun_mk (st := s_colours_of_map) l9 c9 k9
  have m_colours_of_map := PySem.W.mg_of X G a9
  have b_colours_of_map := F_colours_of_map.binds (ps := ["m", "f"]) fun _ _ _ _ _ _ us hl => match us, hl with | [_, _], _ => rfl
  have F_map_colours := fun_mk (st := s_map_colours) l10 c10 k10
  have m_map_colours := PySem.W.mg_of X G a10
  have m_NOT_AS_TOLD := PySem.W.mg_of X G g_NOT_AS_TOLD
  have m_GREATEST_SIZE := PySem.W.mg_of X G g_GREATEST_SIZE
  have m_len := PySem.W.mg_none_of X G z_len
  have m_range := PySem.W.mg_none_of X G z_range
  refine ⟨PySem.W.fnOf "map_colours" "map_colours" (defArgs s_map_colours) (defBody s_map_colours) (defScope s_map_colours) .none kV10 dc10 pm10 an10 cd10 ct10, fun s us hu => match us, hu with | [_, _], _ => .of_eq rfl, fun base _ _ => ?_⟩
  exact ok_map_colours F_map_colours F_is_map F_count_places F_colours_of_map
    (ok_is_map F_is_map F_is_size F_count_places (ok_is_size F_is_size m_GREATEST_SIZE) (ok_count_places F_count_places) b_is_size b_count_places m_is_size m_count_places m_len m_range) (ok_count_places F_count_places)
    (ok_colours_of_map F_colours_of_map F_all_places F_map_colour (ok_all_places F_all_places m_range)
      (ok_map_colour F_map_colour F_three_numbers F_sent_to (ok_three_numbers F_three_numbers) (ok_sent_to F_sent_to F_place_index (ok_place_index F_place_index) b_place_index m_place_index) b_three_numbers b_sent_to m_three_numbers m_sent_to m_range) b_all_places b_map_colour m_all_places m_map_colour)
    b_is_map b_count_places b_colours_of_map m_is_map m_count_places m_colours_of_map m_NOT_AS_TOLD
end Fc
open PySem PySem.W PyProof.Rows
set_option maxRecDepth 100000 in
set_option maxHeartbeats 0 in
theorem PySem.Challenge.cw_fixedcakes_s01_map_colours_holds : PySem.Challenge.rw_fixedcakes_s01_map_colours.Holds := by
  w_on; k_headS; (case hw => exact ⟨[.int 0, .list []], by decide +kernel, by decide +kernel⟩)
  k_fillS
  refine L2.walk_specK (r := PySem.Challenge.rw_fixedcakes_s01_map_colours) (k := 5) (CX := L2.CX0) (ps := ["m", "f"]) (sp := Fc.spMapColours) (by decide +kernel) rfl rfl ⟨rfl, by decide, by decide⟩ (fun w h Y => PySem.W.kIn_of Y) ?F ?S (fun _ _ _ _ z => z)
  case F =>
    intro w mg fa h Y KX G hmg
    refine' Fc.all_mk KX G hmg ?g_NOT_AS_TOLD ?g_GREATEST_SIZE ?a1 ?l1 ?c1 ?k1 ?a2 ?l2 ?c2 ?k2 ?a3 ?l3 ?c3 ?k3 ?a4 ?l4 ?c4 ?k4 ?a5 ?l5 ?c5 ?k5 ?a6 ?l6 ?c6 ?k6 ?a7 ?l7 ?c7 ?k7 ?a8 ?l8 ?c8 ?k8 ?a9 ?l9 ?c9 ?k9 ?a10 ?l10 ?c10 ?k10 ?z_len ?z_range
    (case g_NOT_AS_TOLD => k_is)
    (case g_GREATEST_SIZE => k_is)
    (case a1 => k_is)
    (case l1 => k_is)
    (case c1 => k_is)
    (case k1 => k_is)
    (case a2 => k_is)
    (case l2 => k_is)
    (case c2 => k_is)
    (case k2 => k_is)
    (case a3 => k_is)
    (case l3 => k_is)
    (case c3 => k_is)
    (case k3 => k_is)
    (case a4 => k_is)
    (case l4 => k_is)
    (case c4 => k_is)
    (case k4 => k_is)
    (case a5 => k_is)
    (case l5 => k_is)
    (case c5 => k_is)
    (case k5 => k_is)
    (case a6 => k_is)
    (case l6 => k_is)
    (case c6 => k_is)
    (case k6 => k_is)
    (case a7 => k_is)
    (case l7 => k_is)
    (case c7 => k_is)
    (case k7 => k_is)
    (case a8 => k_is)
    (case l8 => k_is)
    (case c8 => k_is)
    (case k8 => k_is)
    (case a9 => k_is)
    (case l9 => k_is)
    (case c9 => k_is)
    (case k9 => k_is)
    (case a10 => k_is)
    (case l10 => k_is)
    (case c10 => k_is)
    (case k10 => k_is)
    (case z_len => k_is)
    (case z_range => k_is)
  case S =>
    intro K H xs a hO hwi hask hx
    exact Fc.request hwi hx
#print axioms PySem.Challenge.cw_fixedcakes_s01_map_colours_holds
