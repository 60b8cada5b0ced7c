import PyProof.Rows.All
import Wide.All
import OpenK.AllK
import Wide.FinOn
import Open.SpecLaws
import KE.OsHead
import KE.OsGo
import HandS.Comp
import HandS.Dict
import HandS.ForSpec
import KE.KeyNested
import PyProof.DictRoadsH
import KE.KTupSum
import PySem.Challenge.RW_fixedcakes_s10_wishes
set_option Elab.async false
set_option linter.all false
set_option maxRecDepth 100000
set_option maxHeartbeats 4000000
namespace Fc
section
open Kzs2 (places number noOf)
open Kzs3 (okM okMap sent keeps)
abbrev Pl := Kzs2.Place
def cnt (m : Nat) : Nat := (places m).length
theorem okM_iff {m : Nat} : okM m = true ↔ 1 ≤ m ∧ m ≤ 9 := by
  unfold okM Kzs3.most
  rw [Bool.and_eq_true, decide_eq_true_iff, decide_eq_true_iff]
theorem cnt_all : ∀ m : Nat, m < 10 → ((m : Int) + 1) * ((m : Int) + 2) / 2 = ((cnt m : Nat) : Int) := by decide +kernel
theorem cnt_le : ∀ m, m < 10 → cnt m ≤ 55 := by decide +kernel
theorem ix_all : ∀ m : Nat, m < 10 → ∀ j : Nat, j < 10 → ∀ i : Nat, i < 10 → i + j ≤ m → (j : Int) * ((m : Int) + 1) - (j : Int) * ((j : Int) - 1) / 2 + (i : Int) = ((noOf m ⟨i, j⟩ : Nat) : Int) := by decide +kernel
theorem no_lt : ∀ m, m < 10 → ∀ j, j < 10 → ∀ i, i < 10 → i + j ≤ m → noOf m ⟨i, j⟩ < cnt m := by decide +kernel
theorem cnt_int {m : Nat} (h : m ≤ 9) : ((m : Int) + 1) * ((m : Int) + 2) / 2 = ((cnt m : Nat) : Int) := cnt_all m (by omega)
theorem ix_int {m i j : Nat} (h : m ≤ 9) (hp : i + j ≤ m) : (j : Int) * ((m : Int) + 1) - (j : Int) * ((j : Int) - 1) / 2 + (i : Int) = ((noOf m ⟨i, j⟩ : Nat) : Int) := ix_all m (by omega) j (by omega) i (by omega) hp
theorem no_cnt {m : Nat} {p : Pl} (h : m ≤ 9) (hp : p.i + p.j ≤ m) : noOf m p < cnt m := no_lt m (by omega) p.j (by omega) p.i (by omega) hp
theorem okMap_iff {m : Nat} {f : List Nat} : okMap m f = true ↔ f.length = 2 * cnt m ∧ ∀ n, n < cnt m → f.getD (2 * n) 0 + f.getD (2 * n + 1) 0 ≤ m := by
  unfold okMap cnt
  rw [Bool.and_eq_true, beq_iff_eq, List.all_eq_true]
  constructor
  · rintro ⟨h1, h2⟩
    exact ⟨h1, fun n hn => of_decide_eq_true (h2 n (List.mem_range.mpr hn))⟩
  · rintro ⟨h1, h2⟩
    exact ⟨h1, fun n hn => decide_eq_true (h2 n (List.mem_range.mp hn))⟩
theorem sent_ok {m : Nat} {f : List Nat} {p : Pl} (h : m ≤ 9) (ho : okMap m f = true) (hp : p.i + p.j ≤ m) : (sent m f p).i + (sent m f p).j ≤ m :=
  (okMap_iff.mp ho).2 _ (no_cnt h hp)
theorem mem_places {m : Nat} {p : Pl} : p ∈ places m ↔ p.i + p.j ≤ m := by
  unfold places
  rw [List.mem_flatMap]
  constructor
  · rintro ⟨j, hj, h⟩
    obtain ⟨i, hi, rfl⟩ := List.mem_map.mp h
    have := List.mem_range.mp hi
    have := List.mem_range.mp hj
    show i + j ≤ m
    omega
  · intro h
    refine ⟨p.j, List.mem_range.mpr (by omega), List.mem_map.mpr ⟨p.i, List.mem_range.mpr (by omega), rfl⟩⟩
/-- the test of the colour's search -/
def fits (m : Nat) (f : List Nat) (p : Pl) (k : Nat) : Bool := number m p k != 0 && decide (number m (sent m f p) k ≤ number m p k)
def fitting (m : Nat) (f : List Nat) (p : Pl) (n : Nat) : List Nat := (List.range n).filter (fits m f p)
theorem keeps_eq (m : Nat) (f : List Nat) (p : Pl) : keeps m f p = ((List.range 3).find? (fits m f p)).getD 0 := rfl
theorem fit_some {m : Nat} {f : List Nat} {p : Pl} (h1 : 1 ≤ m) (hp : p.i + p.j ≤ m) (hs : (sent m f p).i + (sent m f p).j ≤ m) : ∃ c, c < 3 ∧ fits m f p c = true := by
  by_cases a0 : fits m f p 0 = true
  · exact ⟨0, by omega, a0⟩
  by_cases a1 : fits m f p 1 = true
  · exact ⟨1, by omega, a1⟩
  by_cases a2 : fits m f p 2 = true
  · exact ⟨2, by omega, a2⟩
  exfalso
  unfold fits number at a0 a1 a2
  simp at a0 a1 a2
  omega
theorem fitting_at {m : Nat} {f : List Nat} {p : Pl} (h1 : 1 ≤ m) (hp : p.i + p.j ≤ m) (hs : (sent m f p).i + (sent m f p).j ≤ m) : (fitting m f p 3)[0]? = some (keeps m f p) := by
  rw [← List.head?_eq_getElem?]
  unfold fitting
  rw [List.head?_filter, keeps_eq]
  cases e : (List.range 3).find? (fits m f p) with
  | some c => rfl
  | none =>
    obtain ⟨c, hc, hf⟩ := fit_some h1 hp hs
    exact absurd hf (by simpa using List.find?_eq_none.mp e c (List.mem_range.mpr hc))
theorem fitting_succ (m : Nat) (f : List Nat) (p : Pl) (n : Nat) : fitting m f p (n + 1) = fitting m f p n ++ (if fits m f p n = true then [n] else []) := by
  unfold fitting
  rw [List.range_succ, List.filter_append]
  by_cases h : fits m f p n = true
  · rw [if_pos h, List.filter_cons_of_pos h]; rfl
  · rw [if_neg h, List.filter_cons_of_neg h]; rfl
theorem fitting_len (m : Nat) (f : List Nat) (p : Pl) (n : Nat) : (fitting m f p n).length ≤ n := by
  unfold fitting
  exact Nat.le_trans (List.length_filter_le _ _) (Nat.le_of_eq List.length_range)
/-- the places as the two loops make them: j rows whole, then i places of row j -/
def rowsTo (m j : Nat) : List Pl := (List.range j).flatMap fun j => (List.range (m + 1 - j)).map fun i => ⟨i, j⟩
def partTo (m j i : Nat) : List Pl := rowsTo m j ++ (List.range i).map fun i => ⟨i, j⟩
theorem rowsTo_succ (m j : Nat) : rowsTo m (j + 1) = partTo m j (m + 1 - j) := by
  unfold rowsTo partTo
  rw [List.range_succ, List.flatMap_append]
  rw [List.flatMap_cons, List.flatMap_nil, List.append_nil]
  rfl
theorem partTo_zero (m j : Nat) : partTo m j 0 = rowsTo m j := by
  unfold partTo
  rw [List.range_zero, List.map_nil, List.append_nil]
theorem partTo_succ (m j i : Nat) : partTo m j (i + 1) = partTo m j i ++ [⟨i, j⟩] := by
  unfold partTo
  rw [List.range_succ, List.map_append, List.append_assoc]
  rfl
theorem rowsTo_len (m : Nat) : ∀ j, (rowsTo m j).length ≤ j * (m + 1)
  | 0 => by unfold rowsTo; simp
  | j + 1 => by
    rw [rowsTo_succ]
    unfold partTo
    rw [List.length_append, List.length_map, List.length_range, Nat.succ_mul]
    have := rowsTo_len m j
    omega
theorem partTo_len {m j i : Nat} (hm : m ≤ 9) (hj : j ≤ m) (hi : i ≤ m + 1) : (partTo m j i).length ≤ 100 := by
  unfold partTo
  rw [List.length_append, List.length_map, List.length_range]
  have h := rowsTo_len m j
  have : j * (m + 1) ≤ 9 * 10 := Nat.mul_le_mul (by omega) (by omega)
  omega
theorem take_snoc {α : Type} : ∀ {l : List α} {i : Nat} {x : α}, l[i]? = some x → l.take (i + 1) = l.take i ++ [x]
  | [], i, x, h => by simp at h
  | a :: l, 0, x, h => by
    have e : a = x := Option.some.inj h
    subst e
    rfl
  | a :: l, i + 1, x, h => by
    have ih := take_snoc (l := l) (i := i) (x := x) h
    show a :: l.take (i + 1) = a :: l.take i ++ [x]
    rw [ih]
    rfl
/-! ### the answers -/
def aL (c : Kzs3.Call) : List Int := (Kzs3.answer c).value :: (Kzs3.answer c).nums
def okAll (m : Nat) (f : List Nat) : Bool := okM m && okMap m f
theorem okAll_f {m : Nat} {f : List Nat} (h : okAll m f = false) : okM m = false ∨ okMap m f = false := by
  unfold okAll at h
  rw [Bool.and_eq_false_iff] at h
  exact h
theorem okAll_t {m : Nat} {f : List Nat} (h : okAll m f = true) : ¬ (okM m = false ∨ okMap m f = false) := by
  unfold okAll at h
  rw [Bool.and_eq_true] at h
  rw [h.1, h.2]
  simp
theorem ans_shifts (m i j : Nat) (f : List Nat) : Kzs3.answer (.shifts m i j f) = if okM m = false ∨ okMap m f = false then Kzs1.say (-22) else if m < i + j then Kzs1.say (-2) else Kzs1.told (Kzs3.shifts m f ⟨i, j⟩) := rfl
theorem ans_colours (m : Nat) (f : List Nat) : Kzs3.answer (.mapColours m f) = if okM m = false ∨ okMap m f = false then Kzs1.say (-22) else Kzs1.told (Kzs1.ints (Kzs3.mapColours m f)) := rfl
theorem ans_fixed (m : Nat) (f : List Nat) : Kzs3.answer (.fixed m f) = if okM m = false ∨ okMap m f = false then Kzs1.say (-22) else ⟨((Kzs3.fixed m f).length : Nat), (Kzs3.fixed m f).flatMap fun p => [(p.i : Int), (p.j : Int)]⟩ := rfl
theorem natsOf_cast : ∀ f : List Nat, Kzs3Neutral.natsOf (f.map fun x : Nat => (x : Int)) = f
  | [] => rfl
  | a :: r => by
    show ((a : Int).toNat) :: Kzs3Neutral.natsOf (r.map fun x : Nat => (x : Int)) = a :: r
    rw [natsOf_cast r]
    rfl
end
section
section
open Kzs2 (places number noOf Room corners rooms sides colour)
open Kzs3 (okM okCake slice from1 worth choice owner cakeColours wishes envy)
/-! ### the most of a list -/
theorem max_ge : ∀ (l : List Nat) (a : Nat), a ≤ l.foldl max a
  | [], a => Nat.le_refl _
  | x :: l, a => Nat.le_trans (Nat.le_max_left a x) (max_ge l (max a x))
theorem max_mem : ∀ (l : List Nat) (a : Nat), ∀ x ∈ l, x ≤ l.foldl max a
  | [], _, x, h => by cases h
  | y :: l, a, x, h => by
    rcases List.mem_cons.mp h with rfl | h
    · exact Nat.le_trans (Nat.le_max_right a x) (max_ge l (max a x))
    · exact max_mem l (max a y) x h
theorem max_is : ∀ (l : List Nat) (a : Nat), l.foldl max a = a ∨ l.foldl max a ∈ l
  | [], _ => .inl rfl
  | y :: l, a => by
    rcases max_is l (max a y) with e | e
    · by_cases h : a ≤ y
      · rw [Nat.max_eq_right h] at e
        exact .inr (by show l.foldl max (max a y) ∈ y :: l; rw [Nat.max_eq_right h, e]; exact List.mem_cons_self)
      · rw [Nat.max_eq_left (by omega)] at e
        exact .inl (by show l.foldl max (max a y) = a; rw [Nat.max_eq_left (by omega), e])
    · exact .inr (List.mem_cons_of_mem _ e)
theorem max_eq {l : List Nat} {d : Nat} (h1 : ∀ x ∈ l, x ≤ d) (h2 : d = 0 ∨ d ∈ l) : l.foldl max 0 = d := by
  refine Nat.le_antisymm ?_ ?_
  · rcases max_is l 0 with e | e
    · rw [e]; exact Nat.zero_le _
    · exact h1 _ e
  · rcases h2 with rfl | h
    · exact Nat.zero_le _
    · exact max_mem l 0 d h
/-! ### the piece that one likes best -/
def likes (m : Nat) (v : List Nat) (c : Nat) (p : Pl) : Option Nat → Nat → Option Nat := fun b k => match b with
  | none => some k
  | some a => if worth m v c p a < worth m v c p k then some k else some a
def full (m : Nat) (p : Pl) : List Nat := (List.range 3).filter fun k => number m p k != 0
theorem choice_fold (m : Nat) (v : List Nat) (c : Nat) (p : Pl) : choice m v c p = ((full m p).foldl (likes m v c p) none).getD 0 := rfl
/-- of a row that rises, from a on: the first that is worth most -/
theorem likes_from (m : Nat) (v : List Nat) (c : Nat) (p : Pl) : ∀ (l : List Nat) (a : Nat), ∃ k, l.foldl (likes m v c p) (some a) = some k ∧ k ∈ a :: l ∧ (∀ x ∈ a :: l, worth m v c p x ≤ worth m v c p k) ∧
    ((a :: l).Pairwise (· < ·) → ∀ x ∈ a :: l, x < k → worth m v c p x < worth m v c p k)
  | [], a => ⟨a, rfl, List.mem_cons_self, fun x hx => by
      have : x = a := by simpa using hx
      rw [this]
      exact Nat.le_refl _, fun _ x hx hlt => by
      have : x = a := by simpa using hx
      omega⟩
  | y :: l, a => by
    by_cases h : worth m v c p a < worth m v c p y
    · obtain ⟨k, e, hk, hm, hf⟩ := likes_from m v c p l y
      refine ⟨k, ?_, List.mem_cons_of_mem _ hk, ?_, ?_⟩
      · show l.foldl (likes m v c p) (if worth m v c p a < worth m v c p y then some y else some a) = some k
        rw [if_pos h]
        exact e
      · intro x hx
        rcases List.mem_cons.mp hx with rfl | hx
        · have := hm y List.mem_cons_self
          omega
        · exact hm x hx
      · intro hp x hx hlt
        have hp' := (List.pairwise_cons.mp hp).2
        rcases List.mem_cons.mp hx with rfl | hx
        · have := hm y List.mem_cons_self
          omega
        · exact hf hp' x hx hlt
    · obtain ⟨k, e, hk, hm, hf⟩ := likes_from m v c p l a
      refine ⟨k, ?_, ?_, ?_, ?_⟩
      · show l.foldl (likes m v c p) (if worth m v c p a < worth m v c p y then some y else some a) = some k
        rw [if_neg h]
        exact e
      · rcases List.mem_cons.mp hk with rfl | hk
        · exact List.mem_cons_self
        · exact List.mem_cons_of_mem _ (List.mem_cons_of_mem _ hk)
      · intro x hx
        rcases List.mem_cons.mp hx with rfl | hx
        · exact hm _ List.mem_cons_self
        · rcases List.mem_cons.mp hx with rfl | hx
          · have := hm a List.mem_cons_self
            omega
          · exact hm x (List.mem_cons_of_mem _ hx)
      · intro hp x hx hlt
        have h1 := (List.pairwise_cons.mp hp).1
        have h2 := (List.pairwise_cons.mp hp).2
        have hp' : (a :: l).Pairwise (· < ·) := List.pairwise_cons.mpr ⟨fun z hz => h1 z (List.mem_cons_of_mem _ hz), (List.pairwise_cons.mp h2).2⟩
        rcases List.mem_cons.mp hx with rfl | hx
        · exact hf hp' _ List.mem_cons_self hlt
        · rcases List.mem_cons.mp hx with rfl | hx
          · have ha : a < x := h1 x List.mem_cons_self
            have := hf hp' a List.mem_cons_self (by omega)
            omega
          · exact hf hp' x (List.mem_cons_of_mem _ hx) hlt
theorem mem_full {m k : Nat} {p : Pl} : k ∈ full m p ↔ k < 3 ∧ number m p k ≠ 0 := by
  unfold full
  rw [List.mem_filter, List.mem_range, bne_iff_ne]
theorem full_rises (m : Nat) (p : Pl) : (full m p).Pairwise (· < ·) := List.Pairwise.filter _ List.pairwise_lt_range
theorem full_some {m : Nat} {p : Pl} (h1 : 1 ≤ m) (hp : p.i + p.j ≤ m) : ∃ k, k ∈ full m p := by
  by_cases a : p.i = 0
  · by_cases b : p.j = 0
    · exact ⟨2, mem_full.mpr ⟨by omega, by show m - p.i - p.j ≠ 0; omega⟩⟩
    · exact ⟨1, mem_full.mpr ⟨by omega, b⟩⟩
  · exact ⟨0, mem_full.mpr ⟨by omega, a⟩⟩
theorem choice_is {m : Nat} {v : List Nat} {c : Nat} {p : Pl} (h1 : 1 ≤ m) (hp : p.i + p.j ≤ m) : choice m v c p ∈ full m p ∧ (∀ x ∈ full m p, worth m v c p x ≤ worth m v c p (choice m v c p)) ∧ ∀ x ∈ full m p, x < choice m v c p → worth m v c p x < worth m v c p (choice m v c p) := by
  rw [choice_fold]
  have hr := full_rises m p
  obtain ⟨z, hz⟩ := full_some h1 hp
  cases e : full m p with
  | nil => rw [e] at hz; cases hz
  | cons a l =>
    rw [e] at hr
    obtain ⟨k, e1, e2, e3, e4⟩ := likes_from m v c p l a
    have e5 : ((a :: l).foldl (likes m v c p) none).getD 0 = k := by
      show (l.foldl (likes m v c p) (some a)).getD 0 = k
      rw [e1]
      rfl
    rw [e5]
    exact ⟨e2, e3, e4 hr⟩
theorem choice_eq {m : Nat} {v : List Nat} {c k : Nat} {p : Pl} (h1 : 1 ≤ m) (hp : p.i + p.j ≤ m) (hk : k < 3) (hn : number m p k ≠ 0) (ha : ∀ x, x < 3 → number m p x ≠ 0 → worth m v c p x ≤ worth m v c p k)
    (hb : ∀ x, x < k → number m p x ≠ 0 → worth m v c p x < worth m v c p k) : choice m v c p = k := by
  obtain ⟨c1, c2, c3⟩ := choice_is (v := v) (c := c) h1 hp
  obtain ⟨d1, d2⟩ := mem_full.mp c1
  have a1 := ha _ d1 d2
  have a2 := c2 k (mem_full.mpr ⟨hk, hn⟩)
  by_cases h : choice m v c p < k
  · have := hb _ h d2
    omega
  · by_cases h' : k < choice m v c p
    · have := c3 k (mem_full.mpr ⟨hk, hn⟩) h'
      omega
    · omega
/-! ### what a piece is worth -/
theorem fold_sum : ∀ (l : List Nat) (a : Nat), l.foldl (· + ·) a = a + l.sum
  | [], a => by simp
  | x :: l, a => by
    rw [List.foldl_cons, fold_sum l, List.sum_cons]
    omega
def pieceL (m : Nat) (v : List Nat) (c : Nat) (p : Pl) (k : Nat) : List Nat := (List.range (number m p k)).map fun s => slice m v c (from1 p k + s)
theorem worth_sum (m : Nat) (v : List Nat) (c : Nat) (p : Pl) (k : Nat) : worth m v c p k = (pieceL m v c p k).sum := by
  show (pieceL m v c p k).foldl (· + ·) 0 = _
  rw [fold_sum, Nat.zero_add]
theorem okCake_iff {m : Nat} {v : List Nat} : okCake m v = true ↔ v.length = 3 * m ∧ ∀ x ∈ v, x ≤ 1000 := by
  unfold okCake
  rw [Bool.and_eq_true, beq_iff_eq, List.all_eq_true]
  constructor
  · rintro ⟨a, b⟩
    exact ⟨a, fun x hx => of_decide_eq_true (b x hx)⟩
  · rintro ⟨a, b⟩
    exact ⟨a, fun x hx => decide_eq_true (b x hx)⟩
theorem range_take {α : Type} (v : List α) (d : α) (s n : Nat) (h : s + n ≤ v.length) : (List.range n).map (fun i => v.getD (s + i) d) = (v.drop s).take n := by
  refine List.ext_getElem? fun i => ?_
  rw [List.getElem?_map, List.getElem?_take]
  by_cases hi : i < n
  · rw [List.getElem?_range hi, if_pos hi, List.getElem?_drop, List.getElem?_eq_getElem (by omega)]
    show some (v.getD (s + i) d) = _
    rw [List.getD_eq_getElem?_getD, List.getElem?_eq_getElem (by omega)]
    rfl
  · rw [if_neg hi, List.getElem?_eq_none (by rw [List.length_range]; omega)]
    rfl
theorem from_in {m : Nat} {p : Pl} {k : Nat} (hp : p.i + p.j ≤ m) (hk : k < 3) : from1 p k + number m p k ≤ m := by
  match k, hk with
  | 0, _ => show 0 + p.i ≤ m; omega
  | 1, _ => show p.i + p.j ≤ m; omega
  | 2, _ => show p.i + p.j + (m - p.i - p.j) ≤ m; omega
theorem piece_slice {m : Nat} {v : List Nat} {c k : Nat} {p : Pl} (hv : v.length = 3 * m) (hc : c < 3) (hp : p.i + p.j ≤ m) (hk : k < 3) : pieceL m v c p k = (v.drop (c * m + from1 p k)).take (number m p k) := by
  unfold pieceL
  rw [← range_take v 0 (c * m + from1 p k) (number m p k) ?_]
  · refine List.map_congr_left fun s _ => ?_
    show v.getD (c * m + (from1 p k + s)) 0 = v.getD (c * m + from1 p k + s) 0
    rw [Nat.add_assoc]
  · have h1 := from_in hp hk
    have h2 : c * m ≤ 2 * m := Nat.mul_le_mul_right m (by omega)
    omega
def okC (m : Nat) (v : List Nat) : Bool := okM m && okCake m v
theorem okC_f {m : Nat} {v : List Nat} (h : okC m v = false) : okM m = false ∨ okCake m v = false := by
  unfold okC at h
  rw [Bool.and_eq_false_iff] at h
  exact h
theorem okC_t {m : Nat} {v : List Nat} (h : okC m v = true) : ¬ (okM m = false ∨ okCake m v = false) := by
  unfold okC at h
  rw [Bool.and_eq_true] at h
  rw [h.1, h.2]
  simp
theorem okC_s {m : Nat} {v : List Nat} (h : okC m v = true) : 1 ≤ m ∧ m ≤ 9 ∧ v.length = 3 * m ∧ ∀ x ∈ v, x ≤ 1000 := by
  unfold okC at h
  rw [Bool.and_eq_true] at h
  obtain ⟨a, b⟩ := okM_iff.mp h.1
  obtain ⟨c, d⟩ := okCake_iff.mp h.2
  exact ⟨a, b, c, d⟩
theorem sum_cast : ∀ l : List Nat, (l.map fun x : Nat => (x : Int)).sum = ((l.sum : Nat) : Int)
  | [] => rfl
  | x :: l => by
    rw [List.map_cons, List.sum_cons, List.sum_cons, sum_cast l]
    omega
/-! ### the search as the loop makes it -/
theorem full_at {m : Nat} {p : Pl} (h1 : 1 ≤ m) (hp : p.i + p.j ≤ m) : ∃ a, (full m p)[0]? = some a ∧ a < 3 := by
  obtain ⟨k, hk⟩ := full_some h1 hp
  cases e : full m p with
  | nil => rw [e] at hk; cases hk
  | cons a l => exact ⟨a, rfl, (mem_full.mp (e ▸ List.mem_cons_self)).1⟩
theorem likes_all {m : Nat} {v : List Nat} {c a b : Nat} {p : Pl} (h : (full m p)[0]? = some a) (hb : (full m p).foldl (likes m v c p) (some a) = some b) : choice m v c p = b := by
  rw [choice_fold]
  cases e : full m p with
  | nil => rw [e] at h; cases h
  | cons x l =>
    rw [e] at h hb
    have : x = a := Option.some.inj h
    subst this
    have e1 : likes m v c p (some x) x = some x := if_neg (Nat.lt_irrefl _)
    rw [List.foldl_cons, e1] at hb
    show (l.foldl (likes m v c p) (some x)).getD 0 = b
    rw [hb]
    rfl
def fullTo (m : Nat) (p : Pl) (n : Nat) : List Nat := (List.range n).filter fun k => number m p k != 0
theorem fullTo_succ (m : Nat) (p : Pl) (n : Nat) : fullTo m p (n + 1) = fullTo m p n ++ (if (number m p n != 0) = true then [n] else []) := by
  unfold fullTo
  rw [List.range_succ, List.filter_append]
  by_cases h : (number m p n != 0) = true
  · rw [if_pos h, List.filter_cons_of_pos (p := fun k => number m p k != 0) h]; rfl
  · rw [if_neg h, List.filter_cons_of_neg (p := fun k => number m p k != 0) h]; rfl
theorem fullTo_len (m : Nat) (p : Pl) (n : Nat) : (fullTo m p n).length ≤ n := by
  unfold fullTo
  exact Nat.le_trans (List.length_filter_le _ _) (Nat.le_of_eq List.length_range)
theorem ans_apart (m : Nat) (f : List Nat) : Kzs3.answer (.apart m f) = if okM m = false ∨ Kzs3.okMap m f = false then Kzs1.say (-22) else Kzs1.say (Kzs3.apart m f : Nat) := rfl
theorem ans_cake (m : Nat) (v : List Nat) : Kzs3.answer (.cakeColours m v) = if okM m = false ∨ okCake m v = false then Kzs1.say (-22) else Kzs1.told (Kzs1.ints (cakeColours m v)) := rfl
theorem ans_choice (m c i j : Nat) (v : List Nat) : Kzs3.answer (.choice m c i j v) = if okM m = false ∨ okCake m v = false then Kzs1.say (-22) else if m < i + j ∨ 2 < c then Kzs1.say (-2) else Kzs1.say (choice m v c ⟨i, j⟩ : Nat) := rfl
theorem ans_worth (m c i j k : Nat) (v : List Nat) : Kzs3.answer (.worth m c i j k v) = if okM m = false ∨ okCake m v = false then Kzs1.say (-22) else if m < i + j ∨ 2 < c ∨ 2 < k then Kzs1.say (-2) else Kzs1.say (worth m v c ⟨i, j⟩ k : Nat) := rfl
end
end
section
section
open Kzs2 (places number noOf Room corners rooms sides colour)
/-! ### the rooms as the two loops make them -/
def upC (i j : Nat) : List Pl := [⟨i, j⟩, ⟨i + 1, j⟩, ⟨i, j + 1⟩]
def dnC (i j : Nat) : List Pl := [⟨i + 1, j + 1⟩, ⟨i, j + 1⟩, ⟨i + 1, j⟩]
def oneC (m j i : Nat) : List (List Pl) := if i + j + 2 ≤ m then [upC i j, dnC i j] else [upC i j]
def rRows (m j : Nat) : List (List Pl) := (List.range j).flatMap fun j => (List.range (m - j)).flatMap fun i => oneC m j i
def rPart (m j i : Nat) : List (List Pl) := rRows m j ++ (List.range i).flatMap fun i => oneC m j i
theorem rRows_succ (m j : Nat) : rRows m (j + 1) = rPart m j (m - j) := by
  unfold rRows rPart
  rw [List.range_succ, List.flatMap_append, List.flatMap_cons, List.flatMap_nil, List.append_nil]
  rfl
theorem rPart_zero (m j : Nat) : rPart m j 0 = rRows m j := by
  unfold rPart
  rw [List.range_zero, List.flatMap_nil, List.append_nil]
theorem rPart_succ (m j i : Nat) : rPart m j (i + 1) = rPart m j i ++ oneC m j i := by
  unfold rPart
  rw [List.range_succ, List.flatMap_append, List.flatMap_cons, List.flatMap_nil, List.append_nil, List.append_assoc]
theorem rRows_all (m : Nat) : rRows m m = (rooms m).map corners := by
  unfold rRows rooms
  rw [List.map_flatMap]
  congr 1
  funext j
  rw [List.map_flatMap]
  congr 1
  funext i
  unfold oneC
  by_cases h : i + j + 2 ≤ m
  · rw [if_pos h, if_pos h]
    rfl
  · rw [if_neg h, if_neg h]
    rfl
theorem rRows_len (m : Nat) : ∀ j, (rRows m j).length ≤ j * (2 * m)
  | 0 => by unfold rRows; simp
  | j + 1 => by
    rw [rRows_succ]
    have go : ∀ i, (rPart m j i).length ≤ (rRows m j).length + 2 * i := by
      intro i
      induction i with
      | zero => rw [rPart_zero]; omega
      | succ i ih =>
        rw [rPart_succ, List.length_append]
        have : (oneC m j i).length ≤ 2 := by unfold oneC; split <;> simp
        omega
    have h1 := go (m - j)
    have h2 := rRows_len m j
    rw [Nat.succ_mul]
    omega
theorem rPart_len {m j i : Nat} (hm : m ≤ 9) (hj : j ≤ m) (hi : i ≤ m) : (rPart m j i).length ≤ 200 := by
  have go : ∀ i, (rPart m j i).length ≤ (rRows m j).length + 2 * i := by
    intro i
    induction i with
    | zero => rw [rPart_zero]; omega
    | succ i ih =>
      rw [rPart_succ, List.length_append]
      have : (oneC m j i).length ≤ 2 := by unfold oneC; split <;> simp
      omega
  have h1 := go i
  have h2 := rRows_len m j
  have h3 : j * (2 * m) ≤ 9 * 18 := Nat.mul_le_mul (by omega) (by omega)
  omega
theorem corners_three (r : Room) : ∃ a b d, corners r = [a, b, d] := by
  unfold corners
  by_cases h : r.u = true
  · rw [if_pos h]; exact ⟨_, _, _, rfl⟩
  · rw [if_neg h]; exact ⟨_, _, _, rfl⟩
/-- a room's corners are places -/
theorem room_in {m : Nat} {r : Room} (hr : r ∈ rooms m) {p : Pl} (hp : p ∈ corners r) : p.i + p.j ≤ m := by
  unfold rooms at hr
  obtain ⟨j, hj, hr⟩ := List.mem_flatMap.mp hr
  obtain ⟨i, hi, hr⟩ := List.mem_flatMap.mp hr
  have hj := List.mem_range.mp hj
  have hi := List.mem_range.mp hi
  have hu : corners (⟨i, j, true⟩ : Room) = upC i j := rfl
  have hd : corners (⟨i, j, false⟩ : Room) = dnC i j := rfl
  by_cases h : i + j + 2 ≤ m
  · rw [if_pos h] at hr
    simp only [List.mem_cons, List.not_mem_nil, or_false] at hr
    rcases hr with rfl | rfl
    · rw [hu] at hp
      simp only [upC, List.mem_cons, List.not_mem_nil, or_false] at hp
      rcases hp with rfl | rfl | rfl <;> simp only <;> omega
    · rw [hd] at hp
      simp only [dnC, List.mem_cons, List.not_mem_nil, or_false] at hp
      rcases hp with rfl | rfl | rfl <;> simp only <;> omega
  · rw [if_neg h] at hr
    simp only [List.mem_cons, List.not_mem_nil, or_false] at hr
    subst hr
    rw [hu] at hp
    simp only [upC, List.mem_cons, List.not_mem_nil, or_false] at hp
    rcases hp with rfl | rfl | rfl <;> simp only <;> omega
theorem rooms_pos {m : Nat} (h1 : 1 ≤ m) : 0 < (rooms m).length := by
  cases e : rooms m with
  | nil =>
    have hm : (⟨0, 0, true⟩ : Room) ∈ rooms m := by
      unfold rooms
      refine List.mem_flatMap.mpr ⟨0, List.mem_range.mpr h1, List.mem_flatMap.mpr ⟨0, List.mem_range.mpr (by omega), ?_⟩⟩
      by_cases h : 0 + 0 + 2 ≤ m
      · rw [if_pos h]; exact List.mem_cons_self
      · rw [if_neg h]; exact List.mem_cons_self
    rw [e] at hm
    cases hm
  | cons a l => exact Nat.succ_pos _
theorem rooms_le : ∀ m, m < 10 → (rooms m).length ≤ 81 := by decide +kernel
/-! ### how far apart a room's corners are sent -/
/-- d is the most by which one of the first c numbers is greater where one of these places is sent than where another is -/
def IsMost (m : Nat) (f : List Nat) (ps : List Pl) (c d : Nat) : Prop :=
  (∀ k, k < c → ∀ p ∈ ps, ∀ q ∈ ps, number m (Kzs3.sent m f p) k - number m (Kzs3.sent m f q) k ≤ d) ∧ (d = 0 ∨ ∃ k, k < c ∧ ∃ p ∈ ps, ∃ q ∈ ps, d = number m (Kzs3.sent m f p) k - number m (Kzs3.sent m f q) k)
def roomL (m : Nat) (f : List Nat) (ps : List Pl) : List Nat := ps.flatMap fun p => ps.flatMap fun q => (List.range 3).map fun k => number m (Kzs3.sent m f p) k - number m (Kzs3.sent m f q) k
def roomA (m : Nat) (f : List Nat) (ps : List Pl) : Nat := (roomL m f ps).foldl max 0
theorem mem_roomL {m : Nat} {f : List Nat} {ps : List Pl} {x : Nat} : x ∈ roomL m f ps ↔ ∃ p ∈ ps, ∃ q ∈ ps, ∃ k, k < 3 ∧ number m (Kzs3.sent m f p) k - number m (Kzs3.sent m f q) k = x := by
  unfold roomL
  simp only [List.mem_flatMap, List.mem_map, List.mem_range]
theorem isMost_zero (m : Nat) (f : List Nat) (ps : List Pl) : IsMost m f ps 0 0 := ⟨fun k hk => absurd hk (Nat.not_lt_zero _), .inl rfl⟩
theorem isMost_succ {m : Nat} {f : List Nat} {ps : List Pl} {c d : Nat} {p q : Pl} (h : IsMost m f ps c d) (hp : p ∈ ps) (hq : q ∈ ps) (ha : ∀ x ∈ ps, number m (Kzs3.sent m f x) c ≤ number m (Kzs3.sent m f p) c)
    (hb : ∀ x ∈ ps, number m (Kzs3.sent m f q) c ≤ number m (Kzs3.sent m f x) c) : IsMost m f ps (c + 1) (max d (number m (Kzs3.sent m f p) c - number m (Kzs3.sent m f q) c)) := by
  refine ⟨fun k hk x hx y hy => ?_, ?_⟩
  · by_cases e : k = c
    · subst e
      have := ha x hx
      have := hb y hy
      omega
    · have := h.1 k (by omega) x hx y hy
      omega
  · by_cases e : d ≤ number m (Kzs3.sent m f p) c - number m (Kzs3.sent m f q) c
    · exact .inr ⟨c, by omega, p, hp, q, hq, by omega⟩
    · rw [Nat.max_eq_left (by omega)]
      rcases h.2 with z | ⟨k, hk, z⟩
      · exact .inl z
      · exact .inr ⟨k, by omega, z⟩
theorem isMost_all {m : Nat} {f : List Nat} {ps : List Pl} {d : Nat} (h : IsMost m f ps 3 d) : roomA m f ps = d := by
  refine max_eq (fun x hx => ?_) ?_
  · obtain ⟨p, hp, q, hq, k, hk, rfl⟩ := mem_roomL.mp hx
    exact h.1 k hk p hp q hq
  · rcases h.2 with z | ⟨k, hk, p, hp, q, hq, z⟩
    · exact .inl z
    · exact .inr (mem_roomL.mpr ⟨p, hp, q, hq, k, hk, z.symm⟩)
theorem apart_eq {m : Nat} {f : List Nat} {d : Nat} (h1 : ∀ r ∈ rooms m, roomA m f (corners r) ≤ d) (h2 : ∃ r ∈ rooms m, roomA m f (corners r) = d) : Kzs3.apart m f = d := by
  show ((rooms m).flatMap fun r => roomL m f (corners r)).foldl max 0 = d
  refine max_eq (fun x hx => ?_) ?_
  · obtain ⟨r, hr, hx⟩ := List.mem_flatMap.mp hx
    exact Nat.le_trans (max_mem (roomL m f (corners r)) 0 x hx) (h1 r hr)
  · obtain ⟨r, hr, e⟩ := h2
    rcases max_is (roomL m f (corners r)) 0 with z | z
    · left
      rw [← e]
      exact z
    · right
      refine List.mem_flatMap.mpr ⟨r, hr, ?_⟩
      rw [← e]
      exact z
end
end
section
section
open Kzs2 (places number noOf Room corners rooms sides colour)
open Kzs3 (okM okCake slice from1 worth choice owner cakeColours wishes envy)
/-! ### whose corner: of the corners of a room each is another one's -/
theorem corners_owner (r : Room) : ∃ a b d, corners r = [a, b, d] ∧ owner a < 3 ∧ owner b < 3 ∧ owner d < 3 ∧ owner a ≠ owner b ∧ owner b ≠ owner d ∧ owner a ≠ owner d := by
  unfold corners
  by_cases h : r.u = true
  · rw [if_pos h]
    refine ⟨_, _, _, rfl, ?_⟩
    unfold owner
    simp only
    omega
  · rw [if_neg h]
    refine ⟨_, _, _, rfl, ?_⟩
    unfold owner
    simp only
    omega
theorem owner_inj {r : Room} {p q : Pl} (hp : p ∈ corners r) (hq : q ∈ corners r) (e : owner p = owner q) : p = q := by
  obtain ⟨a, b, d, ec, _, _, _, n1, n2, n3⟩ := corners_owner r
  rw [ec] at hp hq
  simp only [List.mem_cons, List.not_mem_nil, or_false] at hp hq
  rcases hp with rfl | rfl | rfl <;> rcases hq with rfl | rfl | rfl <;> first | rfl | omega
theorem owner_some {r : Room} {c : Nat} (hc : c < 3) : ∃ p, p ∈ corners r ∧ owner p = c := by
  obtain ⟨a, b, d, ec, l1, l2, l3, n1, n2, n3⟩ := corners_owner r
  rw [ec]
  by_cases ha : owner a = c
  · exact ⟨a, by simp, ha⟩
  · by_cases hb : owner b = c
    · exact ⟨b, by simp, hb⟩
    · exact ⟨d, by simp, by omega⟩
theorem find_owner {r : Room} {c : Nat} (hc : c < 3) : ∃ p, ((corners r).find? fun p => owner p == c) = some p ∧ p ∈ corners r ∧ owner p = c := by
  cases e : (corners r).find? fun p => owner p == c with
  | some p => exact ⟨p, rfl, List.mem_of_find?_eq_some e, by simpa using List.find?_some e⟩
  | none =>
    obtain ⟨p, hp, ho⟩ := owner_some (r := r) hc
    exact absurd (List.find?_eq_none.mp e p hp) (by simp [ho])
/-- person c's corner of a room -/
def cornerOf (r : Room) (c : Nat) : Pl := ((corners r).find? fun p => owner p == c).getD ⟨0, 0⟩
theorem cornerOf_is {r : Room} {c : Nat} (hc : c < 3) : cornerOf r c ∈ corners r ∧ owner (cornerOf r c) = c := by
  obtain ⟨p, e, h1, h2⟩ := find_owner (r := r) hc
  unfold cornerOf
  rw [e]
  exact ⟨h1, h2⟩
theorem cornerOf_eq {r : Room} {c : Nat} {p : Pl} (hp : p ∈ corners r) (e : owner p = c) : cornerOf r c = p := by
  have hc : c < 3 := by rw [← e]; exact Nat.mod_lt _ (by decide)
  obtain ⟨h1, h2⟩ := cornerOf_is (r := r) hc
  exact owner_inj h1 hp (by rw [h2, e])
/-- .. as a list that is searched: the corners that are c's -/
theorem filter_owner {r : Room} {c : Nat} (hc : c < 3) : ((corners r).filter fun p => owner p == c)[0]? = some (cornerOf r c) := by
  rw [← List.head?_eq_getElem?, List.head?_filter]
  obtain ⟨p, e, _⟩ := find_owner (r := r) hc
  unfold cornerOf
  rw [e]
  rfl
theorem wishes_eq (m : Nat) (v : List Nat) (r : Room) : wishes m v r = (List.range 3).map fun c => (cornerOf r c, choice m v c (cornerOf r c)) := by
  unfold wishes
  refine List.map_congr_left fun c hc => ?_
  obtain ⟨p, e, _⟩ := find_owner (r := r) (List.mem_range.mp hc)
  unfold cornerOf
  rw [e]
  rfl
def wishL (m : Nat) (v : List Nat) (r : Room) (n : Nat) : List Int := (List.range n).flatMap fun c => [((cornerOf r c).i : Int), ((cornerOf r c).j : Int), ((choice m v c (cornerOf r c) : Nat) : Int)]
theorem wishL_succ (m : Nat) (v : List Nat) (r : Room) (n : Nat) : wishL m v r (n + 1) = wishL m v r n ++ [((cornerOf r n).i : Int), ((cornerOf r n).j : Int), ((choice m v n (cornerOf r n) : Nat) : Int)] := by
  unfold wishL
  rw [List.range_succ, List.flatMap_append, List.flatMap_cons, List.flatMap_nil, List.append_nil]
theorem wishL_len (m : Nat) (v : List Nat) (r : Room) : ∀ n, (wishL m v r n).length = 3 * n
  | 0 => rfl
  | n + 1 => by
    rw [wishL_succ, List.length_append, wishL_len m v r n]
    show 3 * n + 3 = _
    omega
theorem wishes_flat (m : Nat) (v : List Nat) (r : Room) : ((wishes m v r).flatMap fun y => [(y.1.i : Int), (y.1.j : Int), (y.2 : Int)]) = wishL m v r 3 := by
  rw [wishes_eq, List.flatMap_map]
  rfl
/-! ### envy -/
theorem envy_eq {m : Nat} {v : List Nat} {p : Pl} {c k z : Nat} (hz : z < 3) (hm : ∀ x, x < 3 → worth m v c p x ≤ worth m v c p z) : envy m v p c k = worth m v c p z - worth m v c p k := by
  unfold envy
  refine max_eq (fun x hx => ?_) ?_
  · obtain ⟨y, hy, rfl⟩ := List.mem_map.mp hx
    have := hm y (List.mem_range.mp hy)
    omega
  · exact .inr (List.mem_map.mpr ⟨z, List.mem_range.mpr hz, rfl⟩)
theorem rooms_cnt : ∀ m, m < 10 → (rooms m).length = m * m := by decide +kernel
theorem ans_shared (m : Nat) (v : List Nat) : Kzs3.answer (.shared m v) = if okM m = false ∨ okCake m v = false then Kzs1.say (-22) else match Kzs2.first m (cakeColours m v) with
    | none => Kzs1.say (-33)
    | some k => ⟨(k : Nat), (wishes m v ((rooms m).getD k ⟨0, 0, true⟩)).flatMap fun y => [(y.1.i : Int), (y.1.j : Int), (y.2 : Int)]⟩ := rfl
theorem ans_wishes (m k : Nat) (v : List Nat) : Kzs3.answer (.wishes m k v) = if okM m = false ∨ okCake m v = false then Kzs1.say (-22) else match (rooms m)[k]? with
    | none => Kzs1.say (-2)
    | some r => Kzs1.told ((wishes m v r).flatMap fun y => [(y.1.i : Int), (y.1.j : Int), (y.2 : Int)]) := rfl
theorem ans_envies (m i j : Nat) (v w : List Nat) : Kzs3.answer (.envies m i j v w) = if okM m = false ∨ okCake m v = false ∨ w.length ≠ 3 ∨ (w.any fun k => decide (2 < k)) = true then Kzs1.say (-22) else if m < i + j then Kzs1.say (-2) else Kzs1.told ((List.range 3).map fun c => ((envy m v ⟨i, j⟩ c (w.getD c 0) : Nat) : Int)) := rfl
def okW (w : List Nat) : Bool := w.length == 3 && !(w.any fun k => decide (2 < k))
theorem okW_iff {w : List Nat} : okW w = true ↔ w.length = 3 ∧ ∀ x ∈ w, x < 3 := by
  unfold okW
  rw [Bool.and_eq_true, beq_iff_eq, Bool.not_eq_true', List.any_eq_false]
  constructor
  · rintro ⟨h1, h2⟩
    refine ⟨h1, fun x hx => ?_⟩
    have : ¬ 2 < x := fun z => h2 x hx (decide_eq_true z)
    omega
  · rintro ⟨h1, h2⟩
    refine ⟨h1, fun x hx z => ?_⟩
    have := h2 x hx
    have := of_decide_eq_true z
    omega
theorem okW_f {w : List Nat} (h : okW w = false) : w.length ≠ 3 ∨ (w.any fun k => decide (2 < k)) = true := by
  by_cases hl : w.length = 3
  · cases ha : w.any fun k => decide (2 < k) with
    | true => exact .inr rfl
    | false =>
      unfold okW at h
      rw [ha, hl] at h
      exact absurd h (by decide)
  · exact .inl hl
theorem okW_t {w : List Nat} (h : okW w = true) : ¬ (w.length ≠ 3 ∨ (w.any fun k => decide (2 < k)) = true) := by
  unfold okW at h
  rw [Bool.and_eq_true, beq_iff_eq, Bool.not_eq_true'] at h
  rintro (z | z)
  · exact z h.1
  · rw [h.2] at z
    exact Bool.false_ne_true z
end
end
open PySem PySem.Spec PyProof.Rows L2
open PySem.W (Codec WData)
open Kzs2 (places number noOf)
open Kzs3 (okM okMap sent keeps)
/-! ### the text by places -/
def top (i : Nat) : Stmt := PySem.Challenge.pw_fixedcakes_s10_wishes.main.body.getD i (.Pass ⟨0, 0, 0, 0⟩)
abbrev s_is_size : Stmt := top 5
abbrev s_three_numbers : Stmt := top 6
abbrev s_all_rooms : Stmt := top 7
abbrev s_count_rooms : Stmt := top 8
abbrev s_is_room : Stmt := top 9
abbrev s_is_cake : Stmt := top 10
abbrev s_piece_worth : Stmt := top 11
abbrev s_best_piece : Stmt := top 12
abbrev s_whose_place : Stmt := top 13
abbrev s_corner_of_person : Stmt := top 14
abbrev s_wishes_in_room : Stmt := top 15
abbrev s_wishes : Stmt := top 16
/-! ### data -/
abbrev nI (n : Nat) : V := .int (n : Int)
abbrev lI (f : List Nat) : List V := f.map nI
abbrev pT (p : Pl) : HO := .tup [nI p.i, nI p.j]
theorem same_upd {H : Hp} {p : Addr} {o : HO} (h : H p = none) : Same H (upd H p o) := fun b x e => by
  rw [upd_ne (ne_of_none e h)]
  exact e
theorem same_mut {H H' : Hp} {p : Addr} {o : HO} (s : Same H H') (h : H p = none) : Same H (upd H' p o) := fun b x e => by
  rw [upd_ne (ne_of_none e h)]
  exact s _ _ e
theorem iteBF {b : Bool} {A B : Prop} (e : b = false) (h : B) : if b = true then A else B := by
  rw [e]
  exact iteF h
theorem iteBT {b : Bool} {A B : Prop} (e : b = true) (h : A) : if b = true then A else B := by
  rw [e]
  exact iteT h
theorem at_nat {xs : List V} {j : Nat} {v : V} (h : xs[j]? = some v) : atI xs (j : Int) = some v := atI_nat h
theorem lI_at {f : List Nat} {k : Nat} (h : k < f.length) : (lI f)[k]? = some (nI (f.getD k 0)) := by
  rw [List.getElem?_map, List.getElem?_eq_getElem h, List.getD_eq_getElem?_getD, List.getElem?_eq_getElem h]
  rfl
theorem lI_len (f : List Nat) : (lI f).length = f.length := List.length_map _
theorem lI_app (f g : List Nat) : lI (f ++ g) = lI f ++ lI g := List.map_append
section
variable {P : Program} {w : World} {K : PySem.W.Frag} {mg : Str → Option Value} {base : Heap}
open Kzs2 (rooms corners sides)
/-! ### is_size -/
def spIsSize : Sp := fun vs H Q _ => ∃ m : Nat, vs = [nI m] ∧ Q (.bl (okM m)) H
theorem scIsSize : FnScope ["m"] ["m"] (defScope s_is_size) := ⟨rfl, rfl, rfl, by decide +kernel, rfl, by decide +kernel, by decide +kernel⟩
theorem ok_is_size {f : Addr} {fd : FuncData} {t9 : Tok} (F : Fun K "is_size" "is_size" s_is_size f fd) (g9 : mg "GREATEST_SIZE" = some (.int 9 t9)) : FnOk P w K mg base CX0 1 f fd ["m"] spIsSize := by
  refine F.ok scIsSize (fun vs H Q E h => ?_) (fun cdv A outer s H vs Q E hr h => ?_)
  · obtain ⟨m, rfl, _⟩ := h
    rfl
  · obtain ⟨m, rfl, q⟩ := h
    refine ⟨_, pss_one (ps_ret (pe_and (pe_cmp (pc_ge (pv 0) pe_int) rfl) (pe_one (pe_cmp (pc_le (pv 0) (pe_glob (v := .int 9) rfl g9 ⟨_, rfl⟩)) rfl)))), ?_⟩
    refine ⟨_, rfl, _, _, rfl, rfl, _, rfl, ite2 (fun h1 => ?_) (fun h1 => ?_)⟩
    · refine ⟨_, rfl, _, _, rfl, rfl, ?_⟩
      have h1 : (1 : Int) ≤ (m : Int) := of_decide_eq_true h1
      have e : decide ((m : Int) ≤ 9) = okM m := by
        rw [Bool.eq_iff_iff, decide_eq_true_iff, okM_iff]
        omega
      show Q (.bl (decide ((m : Int) ≤ 9))) H
      rw [e]
      exact q
    · have h1 : ¬ (1 : Int) ≤ (m : Int) := fun z => h1 (decide_eq_true z)
      have e : false = okM m := by
        rw [Bool.eq_iff_iff, okM_iff]
        constructor
        · intro z; cases z
        · intro z; omega
      show Q (.bl false) H
      rw [e]
      exact q
/-! ### sums and cuts -/
theorem lI_int (f : List Nat) : lI f = (f.map fun x : Nat => (x : Int)).map V.int := by
  rw [List.map_map]
  rfl
def rSumT (K : PySem.W.Frag) : List V → Hp → VK → Prop := fun vs H Q => ∃ (t : Addr) (ks : List Int), vs = [.ref t] ∧ SqT K H t (ks.map V.int) ∧ Q (.int ks.sum) H
/-- sum of a tuple of whole numbers -/
theorem cr_sumT {X : Cx} (calm : X.calm = true) : CallR X (.builtin "sum") (rSumT X.K) := by
  rintro pins st σ H _ us Q I rv ⟨t, ks, rfl, ht, fin⟩
  obtain ⟨its, ri, hi, _⟩ := I.tuple ht
  rw [Vals.ref1 rv]
  have ia := ri.ints
  obtain ⟨zs, ez⟩ := ia.allInts.items
  have en : PySem.numsOf (PySem.intItems zs).toList = ks := by
    rw [← ez]
    exact ia.numsOf
  rw [nums_intItems] at en
  rw [ez] at hi
  refine PySem.W.ktm_sumG (I.ok.hd calm) hi fun h' tk t' hk => ?_
  refine ⟨.int ks.sum, H, I.kept hk, ⟨t', ?_⟩, fin⟩
  rw [preSum_eq, List.take_of_length_le (by simp), en]
theorem cut_list (v : List Nat) (s n : Nat) (h : s + n ≤ v.length) : cutV (lI v) (some (s : Int)) (some ((s + n : Nat) : Int)) = lI ((v.drop s).take n) := by
  unfold cutV
  rw [HT.sIx_nat, HT.sIx_nat, lI_len, Nat.min_eq_left (by omega), Nat.min_eq_left (by omega), Nat.add_sub_cancel_left]
  show List.take n (List.drop s (v.map nI)) = (List.take n (List.drop s v)).map nI
  rw [List.map_take, List.map_drop]
/-! ### is_cake -/
def spIsCake (K : PySem.W.Frag) : Sp := fun vs H Q _ => ∃ (m : Nat) (a : Addr) (v : List Nat), vs = [nI m, .ref a] ∧ SqL K H a (lI v) ∧ Q (.bl (okC m v)) H
theorem scIsCake : FnScope ["m", "v"] ["m", "v"] (defScope s_is_cake) := ⟨rfl, rfl, rfl, by decide +kernel, rfl, by decide +kernel, by decide +kernel⟩
theorem ok_is_cake {f fS : Addr} {fd fdS : FuncData} {tW : Tok} (F : Fun K "is_cake" "is_cake" s_is_cake f fd) (FS : Fun K "is_size" "is_size" s_is_size fS fdS) (GS : FnOk P w K mg base CX0 1 fS fdS ["m"] spIsSize) (bS : Binds K fdS ["m"] []) (gS : mg "is_size" = some (.ref fS))
    (gW : mg "GREATEST_WORTH" = some (.int 1000 tW)) (ml : mg "len" = none) (mx : mg "max" = none) : FnOk P w K mg base CX0 2 f fd ["m", "v"] (spIsCake K) := by
  refine F.ok scIsCake (fun vs H Q E h => ?_) (fun cdv A outer s H vs Q E hr h => ?_)
  · obtain ⟨m, a, v, rfl, _⟩ := h
    rfl
  · obtain ⟨m, a, v, rfl, ha, q⟩ := h
    refine ⟨_, pss_cons (ps_if (pt_not (pt_val (pe_call GS hr rfl gS FS.kp bS .nil pass0 (pa_cons (pv 0) pa_nil)))) (pss_one (ps_ret pe_bl)) pss_nil)
      (pss_cons (ps_if (pt_cmpR op_ne (pe_callB call_len_seq (by rfl) ml PySem.boot_len (pa_cons (pv 1) pa_nil)) (pe_op op_mul pe_int (pv 0)) (nomark _)) (pss_one (ps_ret pe_bl)) pss_nil)
      (pss_one (ps_ret (pe_cmp (pc_le (pe_callB (cr_max rfl) (by rfl) mx (by decide +kernel) (pa_cons (pv 1) pa_nil)) (pe_glob (v := .int 1000) rfl gW ⟨_, rfl⟩)) rfl)))), ?_⟩
    refine ⟨_, rfl, m, rfl, _, rfl, ?_⟩
    cases hM : okM m with
    | false =>
      have e : okC m v = false := by unfold okC; rw [hM]; rfl
      rw [e] at q
      exact iteT q
    | true =>
      obtain ⟨h1, h9⟩ := okM_iff.mp hM
      refine iteF ?_
      refine ⟨_, rfl, a, _, rfl, .inl ha, _, rfl, _, _, rfl, rfl, .inl ⟨by decide, by decide⟩, rfl, _, rfl, ?_⟩
      by_cases hl : v.length = 3 * m
      · have e1 : (!decide (V.int ((lI v).length : Int) = V.int (3 * (m : Int)))) = false := by
          rw [lI_len, hl, decide_eq_true (by congr 1)]
          rfl
        rw [e1]
        refine iteF ?_
        refine ⟨_, rfl, a, v.map (fun x : Nat => (x : Int)), rfl, by rw [← lI_int]; exact ha, by rw [List.length_map]; omega, fun M hM1 hM2 => ⟨_, _, rfl, rfl, ?_⟩⟩
        have e : decide (M ≤ 1000) = okC m v := by
          unfold okC
          rw [hM, Bool.true_and, Bool.eq_iff_iff, decide_eq_true_iff, okCake_iff]
          constructor
          · intro z
            refine ⟨hl, fun x hx => ?_⟩
            have := hM2 (x : Int) (List.mem_map.mpr ⟨x, hx, rfl⟩)
            omega
          · rintro ⟨_, z⟩
            obtain ⟨x, hx, rfl⟩ := List.mem_map.mp hM1
            have := z x hx
            omega
        show Q (.bl (decide (M ≤ 1000))) H
        rw [e]
        exact q
      · have e1 : (!decide (V.int ((lI v).length : Int) = V.int (3 * (m : Int)))) = true := by
          rw [lI_len, decide_eq_false (by intro z; have := V.int.inj z; omega)]
          rfl
        rw [e1]
        have e : okC m v = false := by
          cases ho : okC m v with
          | false => rfl
          | true => exact absurd (okC_s ho).2.2.1 hl
        rw [e] at q
        exact iteT q
/-! ### count_rooms -/
def spCountR : Sp := fun vs H Q _ => ∃ m : Nat, vs = [nI m] ∧ m ≤ 9 ∧ Q (nI (m * m)) H
theorem scCountR : FnScope ["m"] ["m"] (defScope s_count_rooms) := ⟨rfl, rfl, rfl, by decide +kernel, rfl, by decide +kernel, by decide +kernel⟩
theorem ok_count_rooms {f : Addr} {fd : FuncData} (F : Fun K "count_rooms" "count_rooms" s_count_rooms f fd) : FnOk P w K mg base CX0 1 f fd ["m"] spCountR := by
  refine F.ok scCountR (fun vs H Q E h => ?_) (fun cdv A outer s H vs Q E hr h => ?_)
  · obtain ⟨m, rfl, _⟩ := h
    rfl
  · obtain ⟨m, rfl, hm, q⟩ := h
    refine ⟨_, pss_one (ps_ret (pe_op op_mul (pv 0) (pv 0))), ?_⟩
    refine ⟨_, rfl, _, rfl, _, _, rfl, rfl, .inl ⟨by omega, by omega⟩, ?_⟩
    have e : (m : Int) * (m : Int) = ((m * m : Nat) : Int) := by rw [Int.natCast_mul]
    show Q (.int ((m : Int) * (m : Int))) H
    rw [e]
    exact q
/-! ### is_room -/
def spIsRoom : Sp := fun vs H Q _ => ∃ m k : Nat, vs = [nI m, nI k] ∧ m ≤ 9 ∧ Q (.bl (decide (k < m * m))) H
theorem scIsRoom : FnScope ["m", "k"] ["m", "k"] (defScope s_is_room) := ⟨rfl, rfl, rfl, by decide +kernel, rfl, by decide +kernel, by decide +kernel⟩
theorem ok_is_room {f fR : Addr} {fd fdR : FuncData} (F : Fun K "is_room" "is_room" s_is_room f fd) (FR : Fun K "count_rooms" "count_rooms" s_count_rooms fR fdR) (GR : FnOk P w K mg base CX0 1 fR fdR ["m"] spCountR)
    (bR : Binds K fdR ["m"] []) (gR : mg "count_rooms" = some (.ref fR)) : FnOk P w K mg base CX0 2 f fd ["m", "k"] spIsRoom := by
  refine F.ok scIsRoom (fun vs H Q E h => ?_) (fun cdv A outer s H vs Q E hr h => ?_)
  · obtain ⟨m, k, rfl, _⟩ := h
    rfl
  · obtain ⟨m, k, rfl, hm, q⟩ := h
    refine ⟨_, pss_one (ps_ret (pe_cmp (pc_lt (pv 1) (pe_call GR hr rfl gR FR.kp bR .nil pass0 (pa_cons (pv 0) pa_nil))) rfl)), ?_⟩
    refine ⟨_, rfl, _, rfl, m, rfl, hm, _, _, rfl, rfl, ?_⟩
    have e : decide ((k : Int) < ((m * m : Nat) : Int)) = decide (k < m * m) := by
      rw [Bool.eq_iff_iff, decide_eq_true_iff, decide_eq_true_iff]
      omega
    show Q (.bl (decide ((k : Int) < ((m * m : Nat) : Int)))) H
    rw [e]
    exact q
/-! ### whose_place -/
theorem owner_lt (p : Pl) : Kzs3.owner p < 3 := Nat.mod_lt _ (by decide)
def spWhose : Sp := fun vs H Q _ => ∃ (a : Addr) (p : Pl), vs = [.ref a] ∧ H a = some (pT p) ∧ Q (nI (Kzs3.owner p)) H
theorem scWhose : FnScope ["place"] ["place"] (defScope s_whose_place) := ⟨rfl, rfl, rfl, by decide +kernel, rfl, by decide +kernel, by decide +kernel⟩
theorem ok_whose_place {f : Addr} {fd : FuncData} (F : Fun K "whose_place" "whose_place" s_whose_place f fd) : FnOk P w K mg base CX0 1 f fd ["place"] spWhose := by
  refine F.ok scWhose (fun vs H Q E h => ?_) (fun cdv A outer s H vs Q E hr h => ?_)
  · obtain ⟨a, p, rfl, _⟩ := h
    rfl
  · obtain ⟨a, p, rfl, ha, q⟩ := h
    refine ⟨_, pss_one (ps_ret (pe_op op_mod (pe_op op_add (pe_ix ix_tup (pv 0) pe_int (fun _ _ => rfl)) (pe_op op_mul pe_int (pe_ix ix_tup (pv 0) pe_int (fun _ _ => rfl)))) pe_int)), ?_⟩
    refine ⟨_, rfl, a, _, _, nI p.i, rfl, rfl, SqT.of ha, at_nat (j := 0) rfl, _, rfl, a, _, _, nI p.j, rfl, rfl, SqT.of ha, at_nat (j := 1) rfl, _, _, rfl, rfl, .inl ⟨by decide, by decide⟩, _, _, rfl, rfl, _, _, rfl, rfl, (by show (0 : Int) < 3; decide), ?_⟩
    have e : ((p.i : Int) + 2 * (p.j : Int)) % 3 = ((Kzs3.owner p : Nat) : Int) := by
      unfold Kzs3.owner
      omega
    show Q (.int (((p.i : Int) + 2 * (p.j : Int)) % 3)) H
    rw [e]
    exact q
/-! ### places in the heap -/
def PlsAt (H : Hp) (as : List Addr) (ps : List Pl) : Prop := as.length = ps.length ∧ ∀ (k : Nat) (p : Pl), ps[k]? = some p → ∃ a, as[k]? = some a ∧ H a = some (pT p)
theorem PlsAt.mono {H H' : Hp} {as : List Addr} {ps : List Pl} (h : PlsAt H as ps) (s : Same H H') : PlsAt H' as ps :=
  ⟨h.1, fun k p e => let ⟨a, e1, e2⟩ := h.2 k p e; ⟨a, e1, s _ _ e2⟩⟩
theorem PlsAt.snoc {H : Hp} {as : List Addr} {ps : List Pl} {a : Addr} {p : Pl} (h : PlsAt H as ps) (e : H a = some (pT p)) : PlsAt H (as ++ [a]) (ps ++ [p]) := by
  refine ⟨by rw [List.length_append, List.length_append, h.1]; rfl, fun k q hq => ?_⟩
  by_cases hk : k < ps.length
  · rw [List.getElem?_append_left hk] at hq
    rw [List.getElem?_append_left (by rw [h.1]; exact hk)]
    exact h.2 k q hq
  · rw [List.getElem?_append_right (by omega)] at hq
    rw [List.getElem?_append_right (by rw [h.1]; omega), h.1]
    have hz : k - ps.length = 0 := by
      cases z : k - ps.length with
      | zero => rfl
      | succ n => rw [z] at hq; simp at hq
    rw [hz] at hq ⊢
    have e2 : p = q := Option.some.inj hq
    subst e2
    exact ⟨a, rfl, e⟩
theorem PlsAt.put {H : Hp} {as : List Addr} {ps : List Pl} {l : Addr} {xs : List V} {o : HO} (h : PlsAt H as ps) (e : H l = some (.lst xs)) : PlsAt (upd H l o) as ps :=
  ⟨h.1, fun k p q => let ⟨a, e1, e2⟩ := h.2 k p q; ⟨a, e1, by rw [upd_ne (ne_of e2 e (by intro z; cases z))]; exact e2⟩⟩
/-! ### lists of things in the heap -/
def AllAt {α : Type} (R : Addr → α → Prop) (as : List Addr) (xs : List α) : Prop := as.length = xs.length ∧ ∀ (k : Nat) (x : α), xs[k]? = some x → ∃ a, as[k]? = some a ∧ R a x
theorem AllAt.nil {α : Type} {R : Addr → α → Prop} : AllAt R [] [] := ⟨rfl, fun k x h => by simp at h⟩
theorem AllAt.imp {α : Type} {R R' : Addr → α → Prop} {as : List Addr} {xs : List α} (h : AllAt R as xs) (f : ∀ a x, R a x → R' a x) : AllAt R' as xs :=
  ⟨h.1, fun k p e => let ⟨a, e1, e2⟩ := h.2 k p e; ⟨a, e1, f _ _ e2⟩⟩
theorem AllAt.snoc {α : Type} {R : Addr → α → Prop} {as : List Addr} {xs : List α} {a : Addr} {x : α} (h : AllAt R as xs) (e : R a x) : AllAt R (as ++ [a]) (xs ++ [x]) := by
  refine ⟨by rw [List.length_append, List.length_append, h.1]; rfl, fun k q hq => ?_⟩
  by_cases hk : k < xs.length
  · rw [List.getElem?_append_left hk] at hq
    rw [List.getElem?_append_left (by rw [h.1]; exact hk)]
    exact h.2 k q hq
  · rw [List.getElem?_append_right (by omega)] at hq
    rw [List.getElem?_append_right (by rw [h.1]; omega), h.1]
    have hz : k - xs.length = 0 := by
      cases z : k - xs.length with
      | zero => rfl
      | succ n => rw [z] at hq; simp at hq
    rw [hz] at hq ⊢
    have e2 : x = q := Option.some.inj hq
    subst e2
    exact ⟨a, rfl, e⟩
theorem AllAt.get {α : Type} {R : Addr → α → Prop} {as : List Addr} {xs : List α} {k : Nat} {v : V} (h : AllAt R as xs) (e : (as.map V.ref)[k]? = some v) : ∃ a x, v = .ref a ∧ as[k]? = some a ∧ xs[k]? = some x ∧ R a x := by
  rw [List.getElem?_map] at e
  cases z : as[k]? with
  | none => rw [z] at e; cases e
  | some a =>
    rw [z] at e
    have hk : k < xs.length := by
      rw [← h.1]
      exact (List.getElem?_eq_some_iff.mp z).1
    obtain ⟨b, e1, e2⟩ := h.2 k _ (List.getElem?_eq_getElem hk)
    rw [z] at e1
    have := Option.some.inj e1
    subst this
    exact ⟨a, _, (Option.some.inj e).symm, rfl, List.getElem?_eq_getElem hk, e2⟩
/-- a room: a tuple of its corners -/
def RoomAt (H : Hp) (a : Addr) (ps : List Pl) : Prop := ∃ cs : List Addr, H a = some (.tup (cs.map V.ref)) ∧ PlsAt H cs ps
theorem RoomAt.mono {H H' : Hp} {a : Addr} {ps : List Pl} (h : RoomAt H a ps) (s : Same H H') : RoomAt H' a ps := let ⟨cs, h1, h2⟩ := h; ⟨cs, s _ _ h1, h2.mono s⟩
theorem RoomAt.put {H : Hp} {a : Addr} {ps : List Pl} {l : Addr} {xs : List V} {o : HO} (h : RoomAt H a ps) (e : H l = some (.lst xs)) : RoomAt (upd H l o) a ps := by
  obtain ⟨cs, h1, h2⟩ := h
  exact ⟨cs, by rw [upd_ne (ne_of h1 e (by intro z; cases z))]; exact h1, h2.put e⟩
theorem room_mk {H : Hp} {t1 t2 t3 : Addr} {p1 p2 p3 : Pl} {t : Addr} (h1 : H t1 = some (pT p1)) (h2 : H t2 = some (pT p2)) (h3 : H t3 = some (pT p3)) (h : H t = some (.tup [.ref t1, .ref t2, .ref t3])) : RoomAt H t [p1, p2, p3] :=
  ⟨[t1, t2, t3], h, (((show PlsAt H [] [] from ⟨rfl, fun k p hq => by simp at hq⟩).snoc h1).snoc h2).snoc h3⟩
/-! ### corner_of_person -/
def spCorner : Sp := fun vs H Q _ => ∃ (r : Addr) (c : Nat) (R : Kzs2.Room), vs = [.ref r, nI c] ∧ c < 3 ∧ RoomAt H r (corners R) ∧ ∀ (H' : Hp) (b : Addr), Same H H' → H' b = some (pT (cornerOf R c)) → Q (.ref b) H'
theorem scCorner : FnScope ["room", "c", "corner"] ["room", "c"] (defScope s_corner_of_person) := ⟨rfl, rfl, rfl, by decide +kernel, rfl, by decide +kernel, by decide +kernel⟩
theorem owns_bool (p : Pl) (c : Nat) : decide (nI (Kzs3.owner p) = nI c) = (Kzs3.owner p == c) := by
  rw [Bool.beq_eq_decide_eq, Bool.eq_iff_iff, decide_eq_true_iff, decide_eq_true_iff]
  constructor
  · intro h
    have := V.int.inj h
    omega
  · intro h
    rw [h]
theorem ok_corner_of_person {f fW : Addr} {fd fdW : FuncData} (F : Fun K "corner_of_person" "corner_of_person" s_corner_of_person f fd) (FW : Fun K "whose_place" "whose_place" s_whose_place fW fdW) (GW : FnOk P w K mg base CX0 1 fW fdW ["place"] spWhose)
    (bW : Binds K fdW ["place"] []) (gW : mg "whose_place" = some (.ref fW)) : FnOk P w K mg base CX0 2 f fd ["room", "c"] spCorner := by
  refine F.ok scCorner (fun vs H Q E h => ?_) (fun cdv A outer s H vs Q E hr h => ?_)
  · obtain ⟨r, c, R, rfl, _⟩ := h
    rfl
  · obtain ⟨r, c, R, rfl, hc, ⟨cs, er, pc⟩, q⟩ := h
    refine ⟨_, pss_one (ps_ret (pe_ix ix_list (pe_lc (own := [("corner", 2)]) (g := gName 2) (tt := tTest (tOp rEq (tCall spWhose [] E0 (tCons (tVar 2) tNil)) (tVar 1))) (te := tVar 2)
          rfl scCorner.nd (pi_tup (pv 0)) (blkOk_by (own := [("corner", 2)]) (N := ["room", "c", "corner"]) (sc := defScope s_corner_of_person) (by decide +kernel))
          (fun _ _ _ _ _ => pg_name (i := 2) scCorner.nd rfl (.inl rfl))
          (fun _ _ _ _ _ => pts_one (pt_cmpR op_eq (pe_call GW hr rfl gW FW.kp bW .nil pass0 (pa_cons (pv 2) pa_nil)) (pv 1) (nomark _)))
          (fun _ _ _ _ _ => pv 2)) pe_int (fun _ _ => rfl))), ?_⟩
    have h3 : (corners R).length = 3 := by
      obtain ⟨x, y, z, e⟩ := corners_three R
      rw [e]
      rfl
    refine ⟨_, rfl, r, rfl, ⟨_, SqT.of er⟩, fun D nD => ?_⟩
    refine lc_tup (K := K) (a := r) (xs := cs.map V.ref) (fun i H' => Same H H' ∧ ∃ ts : List Addr, H' D = some (.lst (ts.map V.ref)) ∧ PlsAt H ts (((corners R).take i).filter fun p => Kzs3.owner p == c)) ⟨same_upd nD, [], upd_same, ⟨rfl, fun k p hq => by simp at hq⟩⟩ (fun i H' _ ⟨s1, _⟩ => SqT.of (s1 _ _ er)) ?_ ?_
    · rintro i y H1 hi ⟨s1, ts, eD, pt⟩
      obtain ⟨b, p, rfl, hb, hp, hbp⟩ := AllAt.get (R := fun a p => H a = some (pT p)) pc hi
      have hlen : (ts.map V.ref).length < sizeLine := by
        rw [List.length_map, pt.1]
        refine Nat.lt_of_le_of_lt (List.length_filter_le _ _) (Nat.lt_of_le_of_lt (List.length_take_le' _ _) (small1000 (by omega)))
      refine ⟨rfl, _, rfl, b, p, rfl, s1 _ _ hbp, _, rfl, rfl, _, rfl, ?_⟩
      have eb := owns_bool p c
      cases ho : (Kzs3.owner p == c) with
      | false =>
        refine iteBF (eb.trans ho) ⟨s1, ts, eD, ?_⟩
        rw [take_snoc hp, List.filter_append, List.filter_cons_of_neg (p := fun p => Kzs3.owner p == c) (by rw [ho]; exact Bool.false_ne_true), List.filter_nil, List.append_nil]
        exact pt
      | true =>
        refine iteBT (eb.trans ho) ⟨_, rfl, _, eD, hlen, same_mut s1 nD, ts ++ [b], ?_, ?_⟩
        · rw [upd_same, List.map_append]
          rfl
        · rw [take_snoc hp, List.filter_append, List.filter_cons_of_pos (p := fun p => Kzs3.owner p == c) ho, List.filter_nil]
          exact pt.snoc hbp
    · rintro H1 ⟨s1, ts, eD, pt⟩
      rw [List.length_map, pc.1, List.take_length] at pt
      obtain ⟨x, hx, ex⟩ := pt.2 0 _ (filter_owner hc)
      refine ⟨D, _, _, .ref x, rfl, rfl, SqL.of eD, at_nat (j := 0) (by rw [List.getElem?_map, hx]; rfl), q H1 x s1 (s1 _ _ ex)⟩
/-! ### three_numbers -/
abbrev nums (m : Nat) (p : Pl) : List V := [nI (number m p 0), nI (number m p 1), nI (number m p 2)]
theorem nums_at (m : Nat) (p : Pl) {c : Nat} (h : c < 3) : (nums m p)[c]? = some (nI (number m p c)) := by
  match c, h with
  | 0, _ => rfl
  | 1, _ => rfl
  | 2, _ => rfl
def spThree : Sp := fun vs H Q _ => ∃ (m : Nat) (a : Addr) (p : Pl), vs = [nI m, .ref a] ∧ p.i + p.j ≤ m ∧ H a = some (pT p) ∧ ∀ t, H t = none → Q (.ref t) (upd H t (.tup (nums m p)))
theorem scThree : FnScope ["m", "place"] ["m", "place"] (defScope s_three_numbers) := ⟨rfl, rfl, rfl, by decide +kernel, rfl, by decide +kernel, by decide +kernel⟩
theorem ok_three_numbers {f : Addr} {fd : FuncData} (F : Fun K "three_numbers" "three_numbers" s_three_numbers f fd) : FnOk P w K mg base CX0 1 f fd ["m", "place"] spThree := by
  refine F.ok scThree (fun vs H Q E h => ?_) (fun cdv A outer s H vs Q E hr h => ?_)
  · obtain ⟨m, a, p, rfl, _⟩ := h
    rfl
  · obtain ⟨m, a, p, rfl, hp, ha, q⟩ := h
    refine ⟨_, pss_one (ps_ret (pe_tup (pa_cons (pe_ix ix_tup (pv 1) pe_int (fun _ _ => rfl)) (pa_cons (pe_ix ix_tup (pv 1) pe_int (fun _ _ => rfl))
      (pa_cons (pe_op op_sub (pe_op op_sub (pv 0) (pe_ix ix_tup (pv 1) pe_int (fun _ _ => rfl))) (pe_ix ix_tup (pv 1) pe_int (fun _ _ => rfl))) pa_nil))))), ?_⟩
    refine ⟨_, rfl, a, _, _, nI p.i, rfl, rfl, SqT.of ha, at_nat (j := 0) rfl, _, rfl, a, _, _, nI p.j, rfl, rfl, SqT.of ha, at_nat (j := 1) rfl,
      _, rfl, _, rfl, a, _, _, nI p.i, rfl, rfl, SqT.of ha, at_nat (j := 0) rfl, _, _, rfl, rfl, _, rfl, a, _, _, nI p.j, rfl, rfl, SqT.of ha, at_nat (j := 1) rfl, _, _, rfl, rfl, ?_⟩
    refine ⟨by show 3 ≤ sizeLine; decide, fun t ht => ?_⟩
    have e : ((m : Int) - (p.i : Int) - (p.j : Int)) = ((number m p 2 : Nat) : Int) := by
      show _ = ((m - p.i - p.j : Nat) : Int)
      omega
    show Q (.ref t) (upd H t (.tup [nI p.i, nI p.j, .int ((m : Int) - (p.i : Int) - (p.j : Int))]))
    rw [e]
    exact q t ht
/-! ### piece_worth -/
def before (p : Pl) (k : Nat) : List Int := [(p.i : Int), (p.j : Int)].take k
theorem before_cut (m : Nat) (p : Pl) {k : Nat} (hk : k < 3) : cutV (nums m p) none (some (k : Int)) = (before p k).map V.int := by
  match k, hk with
  | 0, _ => rfl
  | 1, _ => rfl
  | 2, _ => rfl
theorem before_sum (p : Pl) {k : Nat} (hk : k < 3) : (before p k).sum = ((Kzs3.from1 p k : Nat) : Int) := by
  match k, hk with
  | 0, _ => rfl
  | 1, _ => show (p.i : Int) + 0 = (p.i : Int); omega
  | 2, _ => show (p.i : Int) + ((p.j : Int) + 0) = ((p.i + p.j : Nat) : Int); omega
theorem not_whole (m : Nat) (p : Pl) {k : Nat} (hk : k < 3) : ¬ (HT.sIx (nums m p).length 0 none = 0 ∧ HT.sIx (nums m p).length (nums m p).length (some (k : Int)) = (nums m p).length) := by
  rintro ⟨_, z⟩
  rw [HT.sIx_nat] at z
  have : min k 3 = 3 := z
  omega
def spPiece (K : PySem.W.Frag) : Sp := fun vs H Q _ => ∃ (m : Nat) (a : Addr) (c : Nat) (b : Addr) (k : Nat) (v : List Nat) (p : Pl), vs = [nI m, .ref a, nI c, .ref b, nI k] ∧ m ≤ 9 ∧ v.length = 3 * m ∧ SqL K H a (lI v) ∧ c < 3 ∧ k < 3 ∧ p.i + p.j ≤ m ∧ H b = some (pT p) ∧ ∀ H', Same H H' → Q (nI (Kzs3.worth m v c p k)) H'
theorem scPiece : FnScope ["m", "v", "c", "place", "k", "lengths", "start"] ["m", "v", "c", "place", "k"] (defScope s_piece_worth) := ⟨rfl, rfl, rfl, by decide +kernel, rfl, by decide +kernel, by decide +kernel⟩
theorem ok_piece_worth {f f3 : Addr} {fd fd3 : FuncData} (F : Fun K "piece_worth" "piece_worth" s_piece_worth f fd) (F3 : Fun K "three_numbers" "three_numbers" s_three_numbers f3 fd3) (G3 : FnOk P w K mg base CX0 1 f3 fd3 ["m", "place"] spThree)
    (b3 : Binds K fd3 ["m", "place"] []) (g3 : mg "three_numbers" = some (.ref f3)) (ms : mg "sum" = none) : FnOk P w K mg base CX0 2 f fd ["m", "v", "c", "place", "k"] (spPiece K) := by
  refine F.ok scPiece (fun vs H Q E h => ?_) (fun cdv A outer s H vs Q E hr h => ?_)
  · obtain ⟨m, a, c, b, k, v, p, rfl, _⟩ := h
    rfl
  · obtain ⟨m, a, c, b, k, v, p, rfl, h9, hv, ha, hc, hk, hp, hb, q⟩ := h
    refine ⟨_, pss_cons (ps_set (i := 5) scPiece.nd rfl (.inl rfl) (pe_call G3 hr rfl g3 F3.kp b3 .nil pass0 (pa_cons (pv 0) (pa_cons (pv 3) pa_nil))))
      (pss_cons (ps_set (i := 6) scPiece.nd rfl (.inl rfl) (pe_op op_add (pe_op op_mul (pv 2) (pv 0)) (pe_callB (cr_sumT rfl) (by rfl) ms (by decide +kernel) (pa_cons (pe_slice sl_tup (pv 5) po_none (po_some (pv 4))) pa_nil))))
      (pss_one (ps_ret (pe_callB (cr_sum rfl) (by rfl) ms (by decide +kernel) (pa_cons (pe_slice sl_list (pv 1) (po_some (pv 6)) (po_some (pe_op op_add (pv 6) (pe_ix ix_tup (pv 5) (pv 4) (fun _ _ => rfl))))) pa_nil))))), ?_⟩
    -- lengths
    refine ⟨_, rfl, _, rfl, m, b, p, rfl, hp, hb, fun h nh => ?_⟩
    have s1 := same_upd (o := .tup (nums m p)) nh
    have eh : upd H h (.tup (nums m p)) h = some (.tup (nums m p)) := upd_same
    generalize upd H h (.tup (nums m p)) = H1 at s1 eh ⊢
    -- start
    refine ⟨_, rfl, _, rfl, _, _, rfl, rfl, .inl ⟨by omega, by omega⟩, _, rfl, _, rfl, _, rfl, h, _, rfl, SqT.of eh, not_whole m p hk, fun t nt => ?_⟩
    have s2 := same_upd (o := .tup (cutV (nums m p) none (some (k : Int)))) nt
    have et : upd H1 t (.tup (cutV (nums m p) none (some (k : Int)))) t = some (.tup ((before p k).map V.int)) := by rw [upd_same, before_cut m p hk]
    generalize upd H1 t (.tup (cutV (nums m p) none (some (k : Int)))) = H2 at s2 et ⊢
    refine ⟨t, before p k, rfl, SqT.of et, _, _, rfl, rfl, ?_⟩
    have es : (c : Int) * (m : Int) + (before p k).sum = ((c * m + Kzs3.from1 p k : Nat) : Int) := by
      rw [before_sum p hk, Int.natCast_add, Int.natCast_mul]
    dsimp only
    rw [es]
    have hin := from_in hp hk
    have hcm : c * m ≤ 2 * m := Nat.mul_le_mul_right m (by omega)
    have hle : c * m + Kzs3.from1 p k + number m p k ≤ v.length := by omega
    have hw : Kzs3.worth m v c p k = ((v.drop (c * m + Kzs3.from1 p k)).take (number m p k)).sum := by rw [worth_sum, piece_slice hv hc hp hk]
    generalize c * m + Kzs3.from1 p k = st at hle hw ⊢
    -- the slices
    refine ⟨_, rfl, _, rfl, _, rfl, _, rfl, _, rfl, _, rfl, h, _, _, _, rfl, rfl, SqT.of (s2 _ _ eh), at_of (j := k) rfl (nums_at m p hk), _, _, rfl, rfl, _, rfl, a, _, rfl, s2.seq (s1.seq ha), fun l nl => ?_⟩
    have ec : cutV (lI v) (some (st : Int)) (some ((st : Int) + ((number m p k : Nat) : Int))) = ((((v.drop st).take (number m p k)).map fun x : Nat => (x : Int))).map V.int := by
      rw [← lI_int, ← Int.natCast_add, cut_list v st _ hle]
    have en : nI (Kzs3.worth m v c p k) = V.int (((v.drop st).take (number m p k)).map fun x : Nat => (x : Int)).sum := by
      rw [hw]
      exact congrArg V.int (sum_cast _).symm
    have fin := q _ (s1.trans (s2.trans (same_upd (o := .lst (cutV (lI v) (some (st : Int)) (some ((st : Int) + ((number m p k : Nat) : Int))))) nl)))
    rw [en] at fin
    exact ⟨l, _, rfl, SqL.of (by rw [upd_same, ec]), fin⟩
/-! ### best_piece -/
def spBest (K : PySem.W.Frag) : Sp := fun vs H Q _ => ∃ (m : Nat) (a : Addr) (c : Nat) (b : Addr) (v : List Nat) (p : Pl), vs = [nI m, .ref a, nI c, .ref b] ∧ 1 ≤ m ∧ m ≤ 9 ∧ v.length = 3 * m ∧ SqL K H a (lI v) ∧ c < 3 ∧ p.i + p.j ≤ m ∧ H b = some (pT p) ∧ ∀ H', Same H H' → Q (nI (Kzs3.choice m v c p)) H'
theorem scBest : FnScope ["m", "v", "c", "place", "lengths", "filled", "best", "k"] ["m", "v", "c", "place"] (defScope s_best_piece) := ⟨rfl, rfl, rfl, by decide +kernel, rfl, by decide +kernel, by decide +kernel⟩
theorem ne_zero_bool (n : Nat) : (!decide (nI n = V.int 0)) = (n != 0) := by
  rw [bne, Bool.beq_eq_decide_eq]
  congr 1
  rw [Bool.eq_iff_iff, decide_eq_true_iff, decide_eq_true_iff]
  constructor
  · intro h
    have := V.int.inj h
    omega
  · intro h
    rw [h]
    rfl
theorem ok_best_piece {f f3 fW : Addr} {fd fd3 fdW : FuncData} (F : Fun K "best_piece" "best_piece" s_best_piece f fd) (F3 : Fun K "three_numbers" "three_numbers" s_three_numbers f3 fd3) (FW : Fun K "piece_worth" "piece_worth" s_piece_worth fW fdW)
    (G3 : FnOk P w K mg base CX0 1 f3 fd3 ["m", "place"] spThree) (GW : FnOk P w K mg base CX0 2 fW fdW ["m", "v", "c", "place", "k"] (spPiece K)) (b3 : Binds K fd3 ["m", "place"] []) (bW : Binds K fdW ["m", "v", "c", "place", "k"] [])
    (g3 : mg "three_numbers" = some (.ref f3)) (gW : mg "piece_worth" = some (.ref fW)) (mr : mg "range" = none) : FnOk P w K mg base CX0 3 f fd ["m", "v", "c", "place"] (spBest K) := by
  refine F.ok scBest (fun vs H Q E h => ?_) (fun cdv A outer s H vs Q E hr h => ?_)
  · obtain ⟨m, a, c, b, v, p, rfl, _⟩ := h
    rfl
  · obtain ⟨m, a, c, b, v, p, rfl, h1, h9, hv, ha, hc, hp, hb, q⟩ := h
    have hr1 : Room 1 _ := hr.mono (by decide)
    refine ⟨_, pss_cons (ps_set (i := 4) scBest.nd rfl (.inr rfl) (pe_call G3 hr1 rfl g3 F3.kp b3 .nil pass0 (pa_cons (pv 0) (pa_cons (pv 3) pa_nil))))
      (pss_cons (ps_setLc (i := 5) (own := [("k", 7)]) (g := gName 7) (tt := tTest (tOp rNe (tOp (rIxT K) (tVar 4) (tVar 7)) (tC (.int 0)))) (te := tVar 7)
          rfl scBest.nd rfl rfl (sw_true rfl rfl rfl (by decide +kernel)) (pi_range1 rfl mr (pa_cons pe_int pa_nil)) (blkOk_by (own := [("k", 7)]) (N := ["m", "v", "c", "place", "lengths", "filled", "best", "k"]) (sc := defScope s_best_piece) (by decide +kernel))
          (fun _ _ _ _ _ => pg_name (i := 7) scBest.nd rfl (.inl rfl))
          (fun _ _ _ _ _ => pts_one (pt_cmpR op_ne (pe_ix ix_tup (pv 4) (pv 7) (fun _ _ => rfl)) pe_int (nomark _)))
          (fun _ _ _ _ _ => pv 7))
      (pss_cons (ps_set (i := 6) scBest.nd rfl (.inl rfl) (pe_ix ix_list (pv 5) pe_int (fun _ _ => rfl)))
      (pss_cons (ps_for PassesOwn.never rfl (pi_list (pv 5)) (pg_name (i := 7) scBest.nd rfl (.inl rfl))
        (pss_one (ps_if (pt_cmpR op_gt (pe_call GW hr rfl gW FW.kp bW .nil pass0 (pa_cons (pv 0) (pa_cons (pv 1) (pa_cons (pv 2) (pa_cons (pv 3) (pa_cons (pv 7) pa_nil))))))
            (pe_call GW hr rfl gW FW.kp bW .nil pass0 (pa_cons (pv 0) (pa_cons (pv 1) (pa_cons (pv 2) (pa_cons (pv 3) (pa_cons (pv 6) pa_nil)))))) (nomark _))
          (pss_one (ps_set (i := 6) scBest.nd rfl (.inl rfl) (pv 7))) pss_nil)))
      (pss_one (ps_ret (pv 6)))))), ?_⟩
    -- lengths
    refine ⟨_, rfl, _, rfl, m, b, p, rfl, hp, hb, fun h nh => ?_⟩
    have s1 := same_upd (o := .tup (nums m p)) nh
    have eh : upd H h (.tup (nums m p)) h = some (.tup (nums m p)) := upd_same
    generalize upd H h (.tup (nums m p)) = H1 at s1 eh ⊢
    -- filled
    refine ⟨3, rfl, by decide, by decide, fun D nD => ?_⟩
    refine lc_range (n := 3) (fun i H' => Same H1 H' ∧ H' D = some (.lst (lI (fullTo m p i)))) ⟨same_upd nD, upd_same⟩ ?_ ?_
    · rintro i H2 hi ⟨s2, eD⟩
      have hat : atI (nums m p) (0 + (i : Int)) = some (nI (number m p i)) := at_of (j := i) (by omega) (nums_at m p hi)
      have hlen : (lI (fullTo m p i)).length < sizeLine := by
        rw [lI_len]
        exact Nat.lt_of_le_of_lt (fullTo_len m p i) (small1000 (by omega))
      refine ⟨rfl, _, rfl, _, rfl, h, _, _, _, rfl, rfl, SqT.of (s2 _ _ eh), hat, rfl, _, rfl, ?_⟩
      have eb := ne_zero_bool (number m p i)
      cases ho : (number m p i != 0) with
      | false =>
        refine iteBF (eb.trans ho) ⟨s2, ?_⟩
        rw [fullTo_succ, ho, if_neg Bool.false_ne_true, List.append_nil]
        exact eD
      | true =>
        refine iteBT (eb.trans ho) ⟨_, rfl, _, eD, hlen, same_mut s2 nD, ?_⟩
        rw [upd_same, fullTo_succ, ho, if_pos rfl, lI_app]
        show some (HO.lst (_ ++ [V.int (0 + (i : Int))])) = _
        rw [Int.zero_add]
        rfl
    · rintro H2 ⟨s2, eD⟩
      rw [show fullTo m p 3 = full m p from rfl] at eD
      obtain ⟨x0, e0, hx0⟩ := full_at h1 hp
      -- best = filled[0]
      refine ⟨_, rfl, D, _, _, nI x0, rfl, rfl, SqL.of eD, at_of (j := 0) rfl (by rw [List.getElem?_map, e0]; rfl), ?_⟩
      -- for k in filled
      refine ⟨_, rfl, D, rfl, ⟨_, SqL.of eD⟩, for_list (K := K) (a := D) (xs := lI (full m p)) (fun i σ H' => ∃ (v7 : Option V) (x : Nat), σ = [some (nI m), some (.ref a), some (nI c), some (.ref b), some (.ref h), some (.ref D), some (nI x), v7] ∧ Same H2 H' ∧ x < 3 ∧ ((full m p).take i).foldl (likes m v c p) (some x0) = some x)
        ⟨_, x0, rfl, fun _ _ e => e, hx0, rfl⟩ (fun i σ H' _ ⟨_, _, _, s3, _⟩ => SqL.of (s3 _ _ eD)) ?_ ?_⟩
      · rintro i y σ H3 hy ⟨v7, x, rfl, s3, hx, ef⟩
        have hk : i < (full m p).length := by
          have := (List.getElem?_eq_some_iff.mp hy).1
          rwa [lI_len] at this
        have eB : (full m p)[i]? = some (full m p)[i] := List.getElem?_eq_getElem hk
        have hk3 := (mem_full.mp (List.getElem_mem hk)).1
        generalize (full m p)[i] = k at eB hk3
        have ey : y = nI k := by
          rw [List.getElem?_map, eB] at hy
          exact (Option.some.inj hy).symm
        subst ey
        have sa : Same H H3 := s1.trans (s2.trans s3)
        refine ⟨_, rfl, _, rfl, _, rfl, _, rfl, _, rfl, m, a, c, b, k, v, p, rfl, h9, hv, sa.seq ha, hc, hk3, hp, sa _ _ hb, fun H4 s4 => ?_⟩
        refine ⟨_, rfl, _, rfl, _, rfl, _, rfl, _, rfl, m, a, c, b, x, v, p, rfl, h9, hv, (sa.trans s4).seq ha, hc, hx, hp, (sa.trans s4) _ _ hb, fun H5 s5 => ?_⟩
        have s35 : Same H2 H5 := s3.trans (s4.trans s5)
        have en : ((full m p).take (i + 1)).foldl (likes m v c p) (some x0) = if Kzs3.worth m v c p x < Kzs3.worth m v c p k then some k else some x := by
          rw [take_snoc eB, List.foldl_append, ef]
          rfl
        refine ⟨_, _, rfl, rfl, _, rfl, ite2 (fun z => ?_) (fun z => ?_)⟩
        · have z : ((Kzs3.worth m v c p x : Nat) : Int) < ((Kzs3.worth m v c p k : Nat) : Int) := of_decide_eq_true z
          rw [if_pos (by omega)] at en
          exact ⟨_, rfl, _, k, rfl, s35, hk3, en⟩
        · have z : ¬ ((Kzs3.worth m v c p x : Nat) : Int) < ((Kzs3.worth m v c p k : Nat) : Int) := fun y => z (decide_eq_true y)
          rw [if_neg (by omega)] at en
          exact ⟨_, x, rfl, s35, hx, en⟩
      · rintro σ H3 ⟨v7, x, rfl, s3, hx, ef⟩
        rw [lI_len, List.take_length] at ef
        have e := likes_all e0 ef
        refine ⟨_, rfl, ?_⟩
        rw [← e]
        exact q H3 (s1.trans (s2.trans s3))
/-! ### wishes_in_room -/
def spWishIn (K : PySem.W.Frag) : Sp := fun vs H Q _ => ∃ (m : Nat) (a r : Addr) (v : List Nat) (R : Kzs2.Room), vs = [nI m, .ref a, .ref r] ∧ 1 ≤ m ∧ m ≤ 9 ∧ v.length = 3 * m ∧ SqL K H a (lI v) ∧ R ∈ rooms m ∧ RoomAt H r (corners R) ∧ ∀ (H' : Hp) (l : Addr), Same H H' → H l = none → H' l = some (.lst ((wishL m v R 3).map V.int)) → Q (.ref l) H'
theorem scWishIn : FnScope ["m", "v", "room", "told", "c", "corner"] ["m", "v", "room"] (defScope s_wishes_in_room) := ⟨rfl, rfl, rfl, by decide +kernel, rfl, by decide +kernel, by decide +kernel⟩
theorem ok_wishes_in_room {f fC fB : Addr} {fd fdC fdB : FuncData} (F : Fun K "wishes_in_room" "wishes_in_room" s_wishes_in_room f fd) (FC : Fun K "corner_of_person" "corner_of_person" s_corner_of_person fC fdC) (FB : Fun K "best_piece" "best_piece" s_best_piece fB fdB)
    (GC : FnOk P w K mg base CX0 2 fC fdC ["room", "c"] spCorner) (GB : FnOk P w K mg base CX0 3 fB fdB ["m", "v", "c", "place"] (spBest K)) (bC : Binds K fdC ["room", "c"] []) (bB : Binds K fdB ["m", "v", "c", "place"] [])
    (gC : mg "corner_of_person" = some (.ref fC)) (gB : mg "best_piece" = some (.ref fB)) (mr : mg "range" = none) : FnOk P w K mg base CX0 4 f fd ["m", "v", "room"] (spWishIn K) := by
  refine F.ok scWishIn (fun vs H Q E h => ?_) (fun cdv A outer s H vs Q E hr h => ?_)
  · obtain ⟨m, a, r, v, R, rfl, _⟩ := h
    rfl
  · obtain ⟨m, a, r, v, R, rfl, h1, h9, hv, ha, hR, hr', q⟩ := h
    have hr2 : Room 2 _ := hr.mono (by decide)
    refine ⟨_, pss_cons (ps_set (i := 3) scWishIn.nd rfl (.inl rfl) (pe_lst pa_nil))
      (pss_cons (ps_for PassesOwn.never rfl (pi_range1 rfl mr (pa_cons pe_int pa_nil)) (pg_name (i := 4) scWishIn.nd rfl (.inl rfl))
        (pss_cons (ps_set (i := 5) scWishIn.nd rfl (.inl rfl) (pe_call GC hr2 rfl gC FC.kp bC .nil pass0 (pa_cons (pv 2) (pa_cons (pv 4) pa_nil))))
        (pss_one (ps_expr (pe_bm PySem.F.plainAttrs_list PySem.F.slot_list_extend PySem.F.type_list_extend mt_extend (pv 3)
          (pa_cons (pe_lst (pa_cons (pe_ix ix_tup (pv 5) pe_int (fun _ _ => rfl)) (pa_cons (pe_ix ix_tup (pv 5) pe_int (fun _ _ => rfl))
            (pa_cons (pe_call GB hr rfl gB FB.kp bB .nil pass0 (pa_cons (pv 0) (pa_cons (pv 1) (pa_cons (pv 4) (pa_cons (pv 5) pa_nil))))) pa_nil)))) pa_nil))))))
      (pss_one (ps_ret (pv 3)))), ?_⟩
    refine ⟨Nat.zero_le _, fun L nL => ?_⟩
    refine ⟨3, rfl, by decide, by decide, for_range (n := 3) (fun c σ H' => ∃ v4 v5 : Option V, σ = [some (nI m), some (.ref a), some (.ref r), some (.ref L), v4, v5] ∧ Same H H' ∧ H' L = some (.lst ((wishL m v R c).map V.int)))
      ⟨none, none, rfl, same_upd nL, upd_same⟩ ?_ ?_⟩
    · rintro c σ H1 hc ⟨v4, v5, rfl, s1, eL⟩
      refine ⟨_, rfl, _, rfl, r, c, R, (by show [V.ref r, V.int (0 + (c : Int))] = [V.ref r, nI c]; rw [Int.zero_add]), hc, hr'.mono s1, fun H2 b s2 eb => ?_⟩
      have hp : (cornerOf R c).i + (cornerOf R c).j ≤ m := room_in hR (cornerOf_is hc).1
      generalize hco : cornerOf R c = p at eb hp
      refine ⟨_, rfl, .inl ⟨rfl, _, SqL.of (s2 _ _ eL)⟩, _, rfl, b, _, _, nI p.i, rfl, rfl, SqT.of eb, at_nat (j := 0) rfl, _, rfl, b, _, _, nI p.j, rfl, rfl, SqT.of eb, at_nat (j := 1) rfl,
        _, rfl, _, rfl, _, rfl, _, rfl, m, a, c, b, v, p, (by show [nI m, V.ref a, V.int (0 + (c : Int)), V.ref b] = [nI m, .ref a, nI c, .ref b]; rw [Int.zero_add]), h1, h9, hv, (s1.trans s2).seq ha, hc, hp, eb, fun H3 s3 => ⟨by show 3 ≤ sizeLine; decide, fun t nt => ?_⟩⟩
      have s4 := same_upd (o := .lst [nI p.i, nI p.j, nI (Kzs3.choice m v c p)]) nt
      refine ⟨L, t, _, _, rfl, rfl, s4 _ _ (s3 _ _ (s2 _ _ eL)), upd_same, ?_, ?_⟩
      · rw [List.length_map, wishL_len]
        exact Nat.le_of_lt (small1000 (show 3 * c + 3 ≤ 1000 by omega))
      · refine ⟨_, _, rfl, same_mut (s1.trans (s2.trans (s3.trans s4))) nL, ?_⟩
        rw [upd_same, wishL_succ, List.map_append, hco]
        rfl
    · rintro σ H1 ⟨v4, v5, rfl, s1, eL⟩
      exact ⟨_, rfl, q H1 L s1 nL eL⟩
/-! ### all_rooms -/
def spRooms : Sp := fun vs H Q _ => ∃ m : Nat, vs = [nI m] ∧ m ≤ 9 ∧ ∀ (H' : Hp) (l : Addr) (as : List Addr), Same H H' → H l = none → H' l = some (.lst (as.map V.ref)) → AllAt (RoomAt H') as ((rooms m).map corners) → Q (.ref l) H'
theorem scRooms : FnScope ["m", "found", "j", "i"] ["m"] (defScope s_all_rooms) := ⟨rfl, rfl, rfl, by decide +kernel, rfl, by decide +kernel, by decide +kernel⟩
theorem ok_all_rooms {f : Addr} {fd : FuncData} (F : Fun K "all_rooms" "all_rooms" s_all_rooms f fd) (mr : mg "range" = none) : FnOk P w K mg base CX0 1 f fd ["m"] spRooms := by
  refine F.ok scRooms (fun vs H Q E h => ?_) (fun cdv A outer s H vs Q E hr h => ?_)
  · obtain ⟨m, rfl, _⟩ := h
    rfl
  · obtain ⟨m, rfl, h9, q⟩ := h
    refine ⟨_, pss_cons (ps_set (i := 1) scRooms.nd rfl (.inl rfl) (pe_lst pa_nil))
      (pss_cons (ps_for PassesOwn.never rfl (pi_range1 rfl mr (pa_cons (pv 0) pa_nil)) (pg_name (i := 2) scRooms.nd rfl (.inl rfl))
        (pss_one (ps_for PassesOwn.never rfl (pi_range1 rfl mr (pa_cons (pe_op op_sub (pv 0) (pv 2)) pa_nil)) (pg_name (i := 3) scRooms.nd rfl (.inl rfl))
          (pss_cons (ps_expr (pe_bm PySem.F.plainAttrs_list PySem.F.slot_list_append PySem.F.type_list_append mt_append (pv 1) (pa_cons (pe_tup (pa_cons (pe_tup (pa_cons (pv 3) (pa_cons (pv 2) pa_nil)))
              (pa_cons (pe_tup (pa_cons (pe_op op_add (pv 3) pe_int) (pa_cons (pv 2) pa_nil))) (pa_cons (pe_tup (pa_cons (pv 3) (pa_cons (pe_op op_add (pv 2) pe_int) pa_nil))) pa_nil)))) pa_nil)))
          (pss_one (ps_if (pt_cmpR op_lt (pe_op op_add (pv 3) (pv 2)) (pe_op op_sub (pv 0) pe_int) (nomark _))
            (pss_one (ps_expr (pe_bm PySem.F.plainAttrs_list PySem.F.slot_list_append PySem.F.type_list_append mt_append (pv 1) (pa_cons (pe_tup (pa_cons (pe_tup (pa_cons (pe_op op_add (pv 3) pe_int) (pa_cons (pe_op op_add (pv 2) pe_int) pa_nil)))
              (pa_cons (pe_tup (pa_cons (pv 3) (pa_cons (pe_op op_add (pv 2) pe_int) pa_nil))) (pa_cons (pe_tup (pa_cons (pe_op op_add (pv 3) pe_int) (pa_cons (pv 2) pa_nil))) pa_nil)))) pa_nil)))) pss_nil))))))
      (pss_one (ps_ret (pv 1)))), ?_⟩
    refine ⟨Nat.zero_le _, fun l nl => ?_⟩
    have t1 : ((m : Int)).toNat = m := by omega
    refine ⟨_, rfl, _, rfl, by omega, by omega, for_range (n := (m : Int).toNat) (fun j σ H' => ∃ (v2 v3 : Option V) (as : List Addr), σ = [some (nI m), some (.ref l), v2, v3] ∧ Same H H' ∧ H' l = some (.lst (as.map V.ref)) ∧ AllAt (RoomAt H') as (rRows m j))
      ⟨none, none, [], rfl, same_upd nl, upd_same, .nil⟩ ?_ ?_⟩
    · rintro j σ H1 hj ⟨v2, v3, as, rfl, s1, el, pa⟩
      rw [t1] at hj
      have t2 : (((m : Int) - (0 + (j : Int)))).toNat = m - j := by omega
      refine ⟨_, rfl, _, rfl, _, _, rfl, rfl, _, rfl, by omega, by omega, for_range (n := ((m : Int) - (0 + (j : Int))).toNat) (fun i σ H' => ∃ (v3 : Option V) (as : List Addr), σ = [some (nI m), some (.ref l), some (.int (0 + (j : Int))), v3] ∧ Same H H' ∧ H' l = some (.lst (as.map V.ref)) ∧ AllAt (RoomAt H') as (rPart m j i))
        ⟨v3, as, rfl, s1, el, by rw [rPart_zero]; exact pa⟩ ?_ ?_⟩
      · rintro i σ H2 hi ⟨v3, as, rfl, s2, el, pa⟩
        rw [t2] at hi
        have hlen : as.length ≤ 200 := by
          rw [pa.1]
          exact rPart_len h9 (by omega) (by omega)
        -- the room that points up
        refine ⟨_, rfl, .inl ⟨rfl, _, SqL.of el⟩, _, rfl, _, rfl, by show 2 ≤ sizeLine; decide, fun a1 n1 => ⟨_, rfl, _, _, rfl, rfl, _, rfl, by show 2 ≤ sizeLine; decide, fun a2 n2 => ⟨_, rfl, _, rfl, _, _, rfl, rfl, by show 2 ≤ sizeLine; decide, fun a3 n3 => ⟨by show 3 ≤ sizeLine; decide, fun a4 n4 => ?_⟩⟩⟩⟩
        have e1 : (HO.tup [V.int (0 + (i : Int)), V.int (0 + (j : Int))]) = pT ⟨i, j⟩ := by rw [Int.zero_add, Int.zero_add]
        have e2 : (HO.tup [V.int (0 + (i : Int) + 1), V.int (0 + (j : Int))]) = pT ⟨i + 1, j⟩ := by
          rw [Int.zero_add, Int.zero_add]
          rfl
        have e3 : (HO.tup [V.int (0 + (i : Int)), V.int (0 + (j : Int) + 1)]) = pT ⟨i, j + 1⟩ := by
          rw [Int.zero_add, Int.zero_add]
          rfl
        have e4 : (HO.tup [V.int (0 + (i : Int) + 1), V.int (0 + (j : Int) + 1)]) = pT ⟨i + 1, j + 1⟩ := by
          rw [Int.zero_add, Int.zero_add]
          rfl
        have s3 := same_upd (o := pT ⟨i, j⟩) n1
        have x1 : upd H2 a1 (pT ⟨i, j⟩) a1 = some (pT ⟨i, j⟩) := upd_same
        rw [show upd H2 a1 (HO.tup [V.int (0 + (i : Int)), V.int (0 + (j : Int))]) = upd H2 a1 (pT ⟨i, j⟩) by rw [e1]] at n2 n3 n4 ⊢
        generalize upd H2 a1 (pT ⟨i, j⟩) = H3 at s3 x1 n2 n3 n4 ⊢
        have s4 := same_upd (o := pT ⟨i + 1, j⟩) n2
        have x2 : upd H3 a2 (pT ⟨i + 1, j⟩) a2 = some (pT ⟨i + 1, j⟩) := upd_same
        rw [show upd H3 a2 ((HO.tup [V.int (0 + (i : Int) + 1), V.int (0 + (j : Int))])) = upd H3 a2 (pT ⟨i + 1, j⟩) by rw [e2]] at n3 n4 ⊢
        generalize upd H3 a2 (pT ⟨i + 1, j⟩) = H4 at s4 x2 n3 n4 ⊢
        have s5 := same_upd (o := pT ⟨i, j + 1⟩) n3
        have x3 : upd H4 a3 (pT ⟨i, j + 1⟩) a3 = some (pT ⟨i, j + 1⟩) := upd_same
        rw [show upd H4 a3 ((HO.tup [V.int (0 + (i : Int)), V.int (0 + (j : Int) + 1)])) = upd H4 a3 (pT ⟨i, j + 1⟩) by rw [e3]] at n4 ⊢
        generalize upd H4 a3 (pT ⟨i, j + 1⟩) = H5 at s5 x3 n4 ⊢
        have s6 := same_upd (o := .tup [.ref a1, .ref a2, .ref a3]) n4
        have x4 : upd H5 a4 (.tup [.ref a1, .ref a2, .ref a3]) a4 = some (.tup [.ref a1, .ref a2, .ref a3]) := upd_same
        generalize upd H5 a4 (.tup [.ref a1, .ref a2, .ref a3]) = H6 at s6 x4 ⊢
        have s26 : Same H2 H6 := s3.trans (s4.trans (s5.trans s6))
        have rU : RoomAt H6 a4 (upC i j) := room_mk ((s4.trans (s5.trans s6)) _ _ x1) ((s5.trans s6) _ _ x2) (s6 _ _ x3) x4
        have pa6 := (pa.imp fun a x h => h.mono s26).snoc rU
        refine ⟨l, _, _, rfl, rfl, s26 _ _ el, by rw [List.length_map]; exact small1000 (by omega), ?_⟩
        have s7 : Same H (upd H6 l (.lst (as.map V.ref ++ [.ref a4]))) := same_mut (s2.trans s26) nl
        have pa7 : AllAt (RoomAt (upd H6 l (.lst (as.map V.ref ++ [.ref a4])))) (as ++ [a4]) (rPart m j i ++ [upC i j]) := pa6.imp fun a x h => h.put (s26 _ _ el)
        have el7 : upd H6 l (.lst (as.map V.ref ++ [.ref a4])) l = some (.lst ((as ++ [a4]).map V.ref)) := by
          rw [upd_same, List.map_append]
          rfl
        generalize upd H6 l (.lst (as.map V.ref ++ [.ref a4])) = H7 at s7 pa7 el7 ⊢
        -- if i + j < m - 1
        refine ⟨_, rfl, _, rfl, _, _, rfl, rfl, _, rfl, _, _, rfl, rfl, _, _, rfl, rfl, _, rfl, ite2 (fun z => ?_) (fun z => ?_)⟩
        · have z : 0 + (i : Int) + (0 + (j : Int)) < (m : Int) - 1 := of_decide_eq_true z
          refine ⟨_, rfl, .inl ⟨rfl, _, SqL.of el7⟩, _, rfl, _, _, rfl, rfl, _, rfl, _, _, rfl, rfl, by show 2 ≤ sizeLine; decide, fun b1 k1 => ⟨_, rfl, _, rfl, _, _, rfl, rfl, by show 2 ≤ sizeLine; decide, fun b2 k2 => ⟨_, rfl, _, _, rfl, rfl, _, rfl, by show 2 ≤ sizeLine; decide, fun b3 k3 => ⟨by show 3 ≤ sizeLine; decide, fun b4 k4 => ?_⟩⟩⟩⟩
          have u3 := same_upd (o := pT ⟨i + 1, j + 1⟩) k1
          have y1 : upd H7 b1 (pT ⟨i + 1, j + 1⟩) b1 = some (pT ⟨i + 1, j + 1⟩) := upd_same
          rw [show upd H7 b1 (HO.tup [V.int (0 + (i : Int) + 1), V.int (0 + (j : Int) + 1)]) = upd H7 b1 (pT ⟨i + 1, j + 1⟩) by rw [e4]] at k2 k3 k4 ⊢
          generalize upd H7 b1 (pT ⟨i + 1, j + 1⟩) = G3 at u3 y1 k2 k3 k4 ⊢
          have u4 := same_upd (o := pT ⟨i, j + 1⟩) k2
          have y2 : upd G3 b2 (pT ⟨i, j + 1⟩) b2 = some (pT ⟨i, j + 1⟩) := upd_same
          rw [show upd G3 b2 (HO.tup [V.int (0 + (i : Int)), V.int (0 + (j : Int) + 1)]) = upd G3 b2 (pT ⟨i, j + 1⟩) by rw [e3]] at k3 k4 ⊢
          generalize upd G3 b2 (pT ⟨i, j + 1⟩) = G4 at u4 y2 k3 k4 ⊢
          have u5 := same_upd (o := pT ⟨i + 1, j⟩) k3
          have y3 : upd G4 b3 (pT ⟨i + 1, j⟩) b3 = some (pT ⟨i + 1, j⟩) := upd_same
          rw [show upd G4 b3 (HO.tup [V.int (0 + (i : Int) + 1), V.int (0 + (j : Int))]) = upd G4 b3 (pT ⟨i + 1, j⟩) by rw [e2]] at k4 ⊢
          generalize upd G4 b3 (pT ⟨i + 1, j⟩) = G5 at u5 y3 k4 ⊢
          have u6 := same_upd (o := .tup [.ref b1, .ref b2, .ref b3]) k4
          have y4 : upd G5 b4 (.tup [.ref b1, .ref b2, .ref b3]) b4 = some (.tup [.ref b1, .ref b2, .ref b3]) := upd_same
          generalize upd G5 b4 (.tup [.ref b1, .ref b2, .ref b3]) = G6 at u6 y4 ⊢
          have u26 : Same H7 G6 := u3.trans (u4.trans (u5.trans u6))
          have rD : RoomAt G6 b4 (dnC i j) := room_mk ((u4.trans (u5.trans u6)) _ _ y1) ((u5.trans u6) _ _ y2) (u6 _ _ y3) y4
          have qa6 := (pa7.imp fun a x h => h.mono u26).snoc rD
          refine ⟨l, _, _, rfl, rfl, u26 _ _ el7, by rw [List.length_map, List.length_append, List.length_singleton]; exact small1000 (by omega), ?_⟩
          refine ⟨_, (as ++ [a4]) ++ [b4], rfl, same_mut (s7.trans u26) nl, ?_, ?_⟩
          · rw [upd_same, List.map_append (l₁ := as ++ [a4])]
            rfl
          · have er : rPart m j (i + 1) = (rPart m j i ++ [upC i j]) ++ [dnC i j] := by
              rw [rPart_succ]
              unfold oneC
              rw [if_pos (by omega), List.append_assoc]
              rfl
            rw [er]
            exact qa6.imp fun a x h => h.put (u26 _ _ el7)
        · have z : ¬ 0 + (i : Int) + (0 + (j : Int)) < (m : Int) - 1 := fun y => z (decide_eq_true y)
          refine ⟨_, as ++ [a4], rfl, s7, el7, ?_⟩
          have er : rPart m j (i + 1) = rPart m j i ++ [upC i j] := by
            rw [rPart_succ]
            unfold oneC
            rw [if_neg (by omega)]
          rw [er]
          exact pa7
      · rintro σ H2 ⟨v3, as, rfl, s2, el, pa⟩
        rw [t2, ← rRows_succ] at pa
        exact ⟨_, _, as, rfl, s2, el, pa⟩
    · rintro σ H1 ⟨v2, v3, as, rfl, s1, el, pa⟩
      rw [t1, rRows_all] at pa
      exact ⟨_, rfl, q H1 l as s1 nl el pa⟩
/-! ### wishes -/
def spWishes (K : PySem.W.Frag) : Sp := fun vs H Q _ => ∃ (m k : Nat) (a : Addr) (v : List Nat), vs = [nI m, nI k, .ref a] ∧ SqL K H a (lI v) ∧ ∀ (H' : Hp) (p : Addr), H' p = some (.lst ((aL (.wishes m k v)).map V.int)) → Q (.ref p) H'
theorem scWishes : FnScope ["m", "k", "v"] ["m", "k", "v"] (defScope s_wishes) := ⟨rfl, rfl, rfl, by decide +kernel, rfl, by decide +kernel, by decide +kernel⟩
theorem ok_wishes {f fM fI fW fR : Addr} {fd fdM fdI fdW fdR : FuncData} {t22 t2 : Tok} (F : Fun K "wishes" "wishes" s_wishes f fd) (FM : Fun K "is_cake" "is_cake" s_is_cake fM fdM) (FI : Fun K "is_room" "is_room" s_is_room fI fdI) (FW : Fun K "wishes_in_room" "wishes_in_room" s_wishes_in_room fW fdW) (FR : Fun K "all_rooms" "all_rooms" s_all_rooms fR fdR)
    (GM : FnOk P w K mg base CX0 2 fM fdM ["m", "v"] (spIsCake K)) (GI : FnOk P w K mg base CX0 2 fI fdI ["m", "k"] spIsRoom) (GW : FnOk P w K mg base CX0 4 fW fdW ["m", "v", "room"] (spWishIn K)) (GR : FnOk P w K mg base CX0 1 fR fdR ["m"] spRooms)
    (bM : Binds K fdM ["m", "v"] []) (bI : Binds K fdI ["m", "k"] []) (bW : Binds K fdW ["m", "v", "room"] []) (bR : Binds K fdR ["m"] [])
    (gM : mg "is_cake" = some (.ref fM)) (gI : mg "is_room" = some (.ref fI)) (gW : mg "wishes_in_room" = some (.ref fW)) (gR : mg "all_rooms" = some (.ref fR)) (g22 : mg "NOT_AS_TOLD" = some (.int (-22) t22)) (g2 : mg "NOT_THERE" = some (.int (-2) t2)) :
    FnOk P w K mg base CX0 5 f fd ["m", "k", "v"] (spWishes K) := by
  refine F.ok scWishes (fun vs H Q E h => ?_) (fun cdv A outer s H vs Q E hr h => ?_)
  · obtain ⟨m, k, a, v, rfl, _⟩ := h
    rfl
  · obtain ⟨m, k, a, v, rfl, ha, q⟩ := h
    have hr1 : Room 1 _ := hr.mono (by decide)
    have hr2 : Room 2 _ := hr.mono (by decide)
    refine ⟨_, pss_cons (ps_if (pt_not (pt_val (pe_call GM hr2 rfl gM FM.kp bM .nil pass0 (pa_cons (pv 0) (pa_cons (pv 2) pa_nil))))) (pss_one (ps_ret (pe_lst (pa_cons (pe_glob (v := .int (-22)) rfl g22 ⟨_, rfl⟩) pa_nil)))) pss_nil)
      (pss_cons (ps_if (pt_not (pt_val (pe_call GI hr2 rfl gI FI.kp bI .nil pass0 (pa_cons (pv 0) (pa_cons (pv 1) pa_nil))))) (pss_one (ps_ret (pe_lst (pa_cons (pe_glob (v := .int (-2)) rfl g2 ⟨_, rfl⟩) pa_nil)))) pss_nil)
      (pss_one (ps_ret (pe_op op_cat (pe_lst (pa_cons pe_int pa_nil)) (pe_call GW hr rfl gW FW.kp bW .nil pass0 (pa_cons (pv 0) (pa_cons (pv 2) (pa_cons (pe_ix ix_list (pe_call GR hr1 rfl gR FR.kp bR .nil pass0 (pa_cons (pv 0) pa_nil)) (pv 1) (fun _ _ => rfl)) pa_nil)))))))), ?_⟩
    refine ⟨_, rfl, _, rfl, m, a, v, rfl, ha, _, rfl, ?_⟩
    cases hM : okC m v with
    | false =>
      refine iteT ⟨by show 1 ≤ sizeLine; decide, fun p hp => ?_⟩
      refine q _ p ?_
      have e : aL (.wishes m k v) = [-22] := by
        unfold aL
        rw [ans_wishes, if_pos (okC_f hM)]
        rfl
      rw [e]
      exact upd_same
    | true =>
      obtain ⟨h1, h9, hv, _⟩ := okC_s hM
      have hlen := rooms_cnt m (by omega)
      refine iteF ?_
      -- if not is_room(m, k)
      refine ⟨_, rfl, _, rfl, m, k, rfl, h9, _, rfl, ?_⟩
      by_cases hk : k < m * m
      · refine iteBF (by rw [decide_eq_true hk]; rfl) ?_
        have hkr : k < (rooms m).length := by rw [hlen]; exact hk
        refine ⟨by show 1 ≤ sizeLine; decide, fun l nl => ?_⟩
        have s3 := same_upd (o := .lst [.int 9]) nl
        have el : upd H l (.lst [.int 9]) l = some (.lst [.int 9]) := upd_same
        generalize upd H l (.lst [.int 9]) = H3 at s3 el ⊢
        refine ⟨_, rfl, _, rfl, _, rfl, m, rfl, h9, fun H4 r rs s4 nr er pr => ?_⟩
        obtain ⟨x, hx, hR⟩ := pr.2 k (corners (rooms m)[k]) (by rw [List.getElem?_map, List.getElem?_eq_getElem hkr]; rfl)
        refine ⟨_, rfl, r, _, _, .ref x, rfl, rfl, SqL.of er, at_nat (by rw [List.getElem?_map, hx]; rfl), m, a, x, v, (rooms m)[k], rfl, h1, h9, hv, (s3.trans s4).seq ha, List.getElem_mem hkr, hR, fun H5 W s5 nW eW => ?_⟩
        refine ⟨l, W, _, _, rfl, rfl, s5 _ _ (s4 _ _ el), eW, ?_, fun p np => q _ p ?_⟩
        · rw [List.length_map, wishL_len]
          exact Nat.le_of_lt (small1000 (by show 1 + 3 * 3 ≤ 1000; decide))
        · rw [upd_same]
          have e : aL (.wishes m k v) = 9 :: wishL m v (rooms m)[k] 3 := by
            unfold aL
            rw [ans_wishes, if_neg (okC_t hM), List.getElem?_eq_getElem hkr]
            show ((((Kzs3.wishes m v (rooms m)[k]).flatMap fun y => [(y.1.i : Int), (y.1.j : Int), (y.2 : Int)]).length : Nat) : Int) :: ((Kzs3.wishes m v (rooms m)[k]).flatMap fun y => [(y.1.i : Int), (y.1.j : Int), (y.2 : Int)]) = _
            rw [wishes_flat, wishL_len]
            rfl
          rw [e, List.map_cons]
          rfl
      · refine iteBT (by rw [decide_eq_false hk]; rfl) ⟨by show 1 ≤ sizeLine; decide, fun p np => q _ p ?_⟩
        have e : aL (.wishes m k v) = [-2] := by
          unfold aL
          rw [ans_wishes, if_neg (okC_t hM), List.getElem?_eq_none (by omega)]
          rfl
        rw [e]
        exact upd_same
/-! ### the request -/
theorem int_nat {z : Int} (h : Codec.inInt 0 4294967295 z = true) : ∃ n : Nat, z = (n : Int) := by
  have q : 0 ≤ z ∧ z ≤ 4294967295 := by
    unfold Codec.inInt at h
    simpa using h
  exact ⟨z.toNat, by omega⟩
theorem ints_nats : ∀ {l : List Int}, l.all (Codec.inInt 0 4294967295) = true → ∃ f : List Nat, l = f.map fun x : Nat => (x : Int)
  | [], _ => ⟨[], rfl⟩
  | z :: r, h => by
    rw [List.all_cons, Bool.and_eq_true] at h
    obtain ⟨n, rfl⟩ := int_nat h.1
    obtain ⟨f, rfl⟩ := ints_nats h.2
    exact ⟨n :: f, rfl⟩

theorem request {K : PySem.W.Frag} {H : Hp} {xs : List V} {a : Codec.denoteAll PySem.Challenge.rw_fixedcakes_s10_wishes.args} (hwi : Codec.withinAll PySem.Challenge.rw_fixedcakes_s10_wishes.args a = true) (hx : DwAll K H xs (Codec.encAll PySem.Challenge.rw_fixedcakes_s10_wishes.args a)) :
    spWishes K xs H (fun v H' => Dw K H' v (PySem.Challenge.rw_fixedcakes_s10_wishes.ret.enc (Codec.app PySem.Challenge.rw_fixedcakes_s10_wishes.args PySem.Challenge.rw_fixedcakes_s10_wishes.f a))) fun _ _ _ => False := by
  obtain ⟨m, k, v, u⟩ := a
  have q : (Codec.inInt 0 4294967295 m && (Codec.inInt 0 4294967295 k && ((Codec.inLen 0 200 v && v.all (Codec.inInt 0 4294967295)) && true))) = true := hwi
  simp only [Bool.and_eq_true] at q
  obtain ⟨q_m, q_k, ⟨r_v, q_v⟩, _⟩ := q
  obtain ⟨m, rfl⟩ := int_nat q_m
  obtain ⟨k, rfl⟩ := int_nat q_k
  obtain ⟨v, rfl⟩ := ints_nats q_v
  cases hx with
  | cons h_m hx =>
    cases hx with
    | cons h_k hx =>
      cases hx with
      | cons h_v hx =>
        cases hx
        cases h_m
        cases h_k
        cases h_v with
        | lst hs_v ha_v =>
          have e := L2.ints_dw _ _ ha_v
          subst e
          rw [List.map_map] at hs_v
          refine ⟨m, k, _, v, rfl, hs_v, fun H' p hp => ?_⟩
          have e : PyKzs3.wishes (m : Int) (k : Int) (v.map fun x : Nat => (x : Int)) = aL (.wishes m k v) := by
            show aL (.wishes (m : Int).toNat (k : Int).toNat (Kzs3Neutral.natsOf (v.map fun x : Nat => (x : Int)))) = _
            rw [natsOf_cast]
            rfl
          show Dw K H' (.ref p) (.list ((PyKzs3.wishes (m : Int) (k : Int) (v.map fun x : Nat => (x : Int))).map WData.int))
          rw [e]
          exact .lst (L2.SqL.of hp) (L2.dw_ints _)
end
/-! ### what the top has written -/
theorem all_mk {P : Program} {w : World} {K : PySem.W.Frag} {h : Heap} {mg : Str → Option Value} {fa : Addr} (X : K.In h) (G : h.Ns mainGlobals mg) (hfa : mg "wishes" = some (.ref fa))
    {f1 : Addr} {od1 an1 : Option Addr} {sl1 : Array (Option Value)} {oc1 kV1 dc1 pm1 cd1 ct1 : Value}
    {f2 : Addr} {od2 an2 : Option Addr} {sl2 : Array (Option Value)} {oc2 kV2 dc2 pm2 cd2 ct2 : Value}
    {f3 : Addr} {od3 an3 : Option Addr} {sl3 : Array (Option Value)} {oc3 kV3 dc3 pm3 cd3 ct3 : Value}
    {f4 : Addr} {od4 an4 : Option Addr} {sl4 : Array (Option Value)} {oc4 kV4 dc4 pm4 cd4 ct4 : Value}
    {f5 : Addr} {od5 an5 : Option Addr} {sl5 : Array (Option Value)} {oc5 kV5 dc5 pm5 cd5 ct5 : Value}
    {f6 : Addr} {od6 an6 : Option Addr} {sl6 : Array (Option Value)} {oc6 kV6 dc6 pm6 cd6 ct6 : Value}
    {f7 : Addr} {od7 an7 : Option Addr} {sl7 : Array (Option Value)} {oc7 kV7 dc7 pm7 cd7 ct7 : Value}
    {f8 : Addr} {od8 an8 : Option Addr} {sl8 : Array (Option Value)} {oc8 kV8 dc8 pm8 cd8 ct8 : Value}
    {f9 : Addr} {od9 an9 : Option Addr} {sl9 : Array (Option Value)} {oc9 kV9 dc9 pm9 cd9 ct9 : Value}
    {f10 : Addr} {od10 an10 : Option Addr} {sl10 : Array (Option Value)} {oc10 kV10 dc10 pm10 cd10 ct10 : Value}
    {f11 : Addr} {od11 an11 : Option Addr} {sl11 : Array (Option Value)} {oc11 kV11 dc11 pm11 cd11 ct11 : Value}
    {f12 : Addr} {od12 an12 : Option Addr} {sl12 : Array (Option Value)} {oc12 kV12 dc12 pm12 cd12 ct12 : Value}
    {t_NOT_AS_TOLD : Tok} (g_NOT_AS_TOLD : PySem.W.nsIn K mainGlobals "NOT_AS_TOLD" = some (some (.int (-22) t_NOT_AS_TOLD)))
    {t_NOT_THERE : Tok} (g_NOT_THERE : PySem.W.nsIn K mainGlobals "NOT_THERE" = some (some (.int (-2) t_NOT_THERE)))
    {t_GREATEST_SIZE : Tok} (g_GREATEST_SIZE : PySem.W.nsIn K mainGlobals "GREATEST_SIZE" = some (some (.int (9) t_GREATEST_SIZE)))
    {t_GREATEST_WORTH : Tok} (g_GREATEST_WORTH : PySem.W.nsIn K mainGlobals "GREATEST_WORTH" = some (some (.int (1000) t_GREATEST_WORTH)))
    (a1 : PySem.W.nsIn K mainGlobals "is_size" = some (some (.ref f1))) (l1 : K.lookup f1 = some ⟨oc1, od1, .func (PySem.W.fnOf "is_size" "is_size" (defArgs s_is_size) (defBody s_is_size) (defScope s_is_size) .none kV1 dc1 pm1 an1 cd1 ct1), sl1⟩) (c1 : PySem.W.codeIn K cd1 "is_size" = true) (k1 : PySem.W.keepIn K (.ref f1) = true)
    (a2 : PySem.W.nsIn K mainGlobals "three_numbers" = some (some (.ref f2))) (l2 : K.lookup f2 = some ⟨oc2, od2, .func (PySem.W.fnOf "three_numbers" "three_numbers" (defArgs s_three_numbers) (defBody s_three_numbers) (defScope s_three_numbers) .none kV2 dc2 pm2 an2 cd2 ct2), sl2⟩) (c2 : PySem.W.codeIn K cd2 "three_numbers" = true) (k2 : PySem.W.keepIn K (.ref f2) = true)
    (a3 : PySem.W.nsIn K mainGlobals "all_rooms" = some (some (.ref f3))) (l3 : K.lookup f3 = some ⟨oc3, od3, .func (PySem.W.fnOf "all_rooms" "all_rooms" (defArgs s_all_rooms) (defBody s_all_rooms) (defScope s_all_rooms) .none kV3 dc3 pm3 an3 cd3 ct3), sl3⟩) (c3 : PySem.W.codeIn K cd3 "all_rooms" = true) (k3 : PySem.W.keepIn K (.ref f3) = true)
    (a4 : PySem.W.nsIn K mainGlobals "count_rooms" = some (some (.ref f4))) (l4 : K.lookup f4 = some ⟨oc4, od4, .func (PySem.W.fnOf "count_rooms" "count_rooms" (defArgs s_count_rooms) (defBody s_count_rooms) (defScope s_count_rooms) .none kV4 dc4 pm4 an4 cd4 ct4), sl4⟩) (c4 : PySem.W.codeIn K cd4 "count_rooms" = true) (k4 : PySem.W.keepIn K (.ref f4) = true)
    (a5 : PySem.W.nsIn K mainGlobals "is_room" = some (some (.ref f5))) (l5 : K.lookup f5 = some ⟨oc5, od5, .func (PySem.W.fnOf "is_room" "is_room" (defArgs s_is_room) (defBody s_is_room) (defScope s_is_room) .none kV5 dc5 pm5 an5 cd5 ct5), sl5⟩) (c5 : PySem.W.codeIn K cd5 "is_room" = true) (k5 : PySem.W.keepIn K (.ref f5) = true)
    (a6 : PySem.W.nsIn K mainGlobals "is_cake" = some (some (.ref f6))) (l6 : K.lookup f6 = some ⟨oc6, od6, .func (PySem.W.fnOf "is_cake" "is_cake" (defArgs s_is_cake) (defBody s_is_cake) (defScope s_is_cake) .none kV6 dc6 pm6 an6 cd6 ct6), sl6⟩) (c6 : PySem.W.codeIn K cd6 "is_cake" = true) (k6 : PySem.W.keepIn K (.ref f6) = true)
    (a7 : PySem.W.nsIn K mainGlobals "piece_worth" = some (some (.ref f7))) (l7 : K.lookup f7 = some ⟨oc7, od7, .func (PySem.W.fnOf "piece_worth" "piece_worth" (defArgs s_piece_worth) (defBody s_piece_worth) (defScope s_piece_worth) .none kV7 dc7 pm7 an7 cd7 ct7), sl7⟩) (c7 : PySem.W.codeIn K cd7 "piece_worth" = true) (k7 : PySem.W.keepIn K (.ref f7) = true)
    (a8 : PySem.W.nsIn K mainGlobals "best_piece" = some (some (.ref f8))) (l8 : K.lookup f8 = some ⟨oc8, od8, .func (PySem.W.fnOf "best_piece" "best_piece" (defArgs s_best_piece) (defBody s_best_piece) (defScope s_best_piece) .none kV8 dc8 pm8 an8 cd8 ct8), sl8⟩) (c8 : PySem.W.codeIn K cd8 "best_piece" = true) (k8 : PySem.W.keepIn K (.ref f8) = true)
    (a9 : PySem.W.nsIn K mainGlobals "whose_place" = some (some (.ref f9))) (l9 : K.lookup f9 = some ⟨oc9, od9, .func (PySem.W.fnOf "whose_place" "whose_place" (defArgs s_whose_place) (defBody s_whose_place) (defScope s_whose_place) .none kV9 dc9 pm9 an9 cd9 ct9), sl9⟩) (c9 : PySem.W.codeIn K cd9 "whose_place" = true) (k9 : PySem.W.keepIn K (.ref f9) = true)
    (a10 : PySem.W.nsIn K mainGlobals "corner_of_person" = some (some (.ref f10))) (l10 : K.lookup f10 = some ⟨oc10, od10, .func (PySem.W.fnOf "corner_of_person" "corner_of_person" (defArgs s_corner_of_person) (defBody s_corner_of_person) (defScope s_corner_of_person) .none kV10 dc10 pm10 an10 cd10 ct10), sl10⟩) (c10 : PySem.W.codeIn K cd10 "corner_of_person" = true) (k10 : PySem.W.keepIn K (.ref f10) = true)
    (a11 : PySem.W.nsIn K mainGlobals "wishes_in_room" = some (some (.ref f11))) (l11 : K.lookup f11 = some ⟨oc11, od11, .func (PySem.W.fnOf "wishes_in_room" "wishes_in_room" (defArgs s_wishes_in_room) (defBody s_wishes_in_room) (defScope s_wishes_in_room) .none kV11 dc11 pm11 an11 cd11 ct11), sl11⟩) (c11 : PySem.W.codeIn K cd11 "wishes_in_room" = true) (k11 : PySem.W.keepIn K (.ref f11) = true)
    (a12 : PySem.W.nsIn K mainGlobals "wishes" = some (some (.ref f12))) (l12 : K.lookup f12 = some ⟨oc12, od12, .func (PySem.W.fnOf "wishes" "wishes" (defArgs s_wishes) (defBody s_wishes) (defScope s_wishes) .none kV12 dc12 pm12 an12 cd12 ct12), sl12⟩) (c12 : PySem.W.codeIn K cd12 "wishes" = true) (k12 : PySem.W.keepIn K (.ref f12) = true)
    (z_len : PySem.W.nsIn K mainGlobals "len" = some none)
    (z_max : PySem.W.nsIn K mainGlobals "max" = some none)
    (z_range : PySem.W.nsIn K mainGlobals "range" = some none)
    (z_sum : PySem.W.nsIn K mainGlobals "sum" = some none)
    : ∃ fd : FuncData, (∀ (s : Shared) (us : List Value), us.length = (["m", "k", "v"] : List Str).length → BindsTo s fd ⟨us, []⟩ ((["m", "k", "v"] : List Str).zip us)) ∧ ∀ base : Heap, K.In base → base.Ns mainGlobals mg → FnOk P w K mg base CX0 5 fa fd ["m", "k", "v"] (spWishes K) := by
  have e := hfa.symm.trans (PySem.W.mg_of X G a12)
  cases e
  have F_is_size := fun_mk (st := s_is_size) l1 c1 k1
  have m_is_size := PySem.W.mg_of X G a1
  have b_is_size := F_is_size.binds (ps := ["m"]) fun _ _ _ _ _ _ us hl => match us, hl with | [_], _ => rfl
  have F_three_numbers := fun_mk (st := s_three_numbers) l2 c2 k2
  have m_three_numbers := PySem.W.mg_of X G a2
  have b_three_numbers := F_three_numbers.binds (ps := ["m", "place"]) fun _ _ _ _ _ _ us hl => match us, hl with | [_, _], _ => rfl
  have F_all_rooms := fun_mk (st := s_all_rooms) l3 c3 k3
  have m_all_rooms := PySem.W.mg_of X G a3
  have b_all_rooms := F_all_rooms.binds (ps := ["m"]) fun _ _ _ _ _ _ us hl => match us, hl with | [_], _ => rfl
  have F_count_rooms := fun_mk (st := s_count_rooms) l4 c4 k4
  have m_count_rooms := PySem.W.mg_of X G a4
  have b_count_rooms := F_count_rooms.binds (ps := ["m"]) fun _ _ _ _ _ _ us hl => match us, hl with | [_], _ => rfl
  have F_is_room := fun_mk (st := s_is_room) l5 c5 k5
  have m_is_room := PySem.W.mg_of X G a5
  have b_is_room := F_is_room.binds (ps := ["m", "k"]) fun _ _ _ _ _ _ us hl => match us, hl with | [_, _], _ => rfl
  have F_is_cake := fun_mk (st := s_is_cake) l6 c6 k6
  have m_is_cake := PySem.W.mg_of X G a6
  have b_is_cake := F_is_cake.binds (ps := ["m", "v"]) fun _ _ _ _ _ _ us hl => match us, hl with | [_, _], _ => rfl
  have F_piece_worth := fun_mk (st := s_piece_worth) l7 c7 k7
  have m_piece_worth := PySem.W.mg_of X G a7
  have b_piece_worth := F_piece_worth.binds (ps := ["m", "v", "c", "place", "k"]) fun _ _ _ _ _ _ us hl => match us, hl with | [_, _, _, _, _], _ => rfl
  have F_best_piece := fun_mk (st := s_best_piece) l8 c8 k8
  have m_best_piece := PySem.W.mg_of X G a8
  have b_best_piece := F_best_piece.binds (ps := ["m", "v", "c", "place"]) fun _ _ _ _ _ _ us hl => match us, hl with | [_, _, _, _], _ => rfl
  have F_whose_place := fun_mk (st := s_whose_place) l9 c9 k9
  have m_whose_place := PySem.W.mg_of X G a9
  have b_whose_place := F_whose_place.binds (ps := ["place"]) fun _ _ _ _ _ _ us hl => match us, hl with | [_], _ => rfl
  have F_corner_of_person := fun_mk (st := s_corner_of_person) l10 c10 k10
  have m_corner_of_person := PySem.W.mg_of X G a10
  have b_corner_of_person := F_corner_of_person.binds (ps := ["room", "c"]) fun _ _ _ _ _ _ us hl => match us, hl with | [_, _], _ => rfl
  have F_wishes_in_room := fun_mk (st := s_wishes_in_room) l11 c11 k11
  have m_wishes_in_room := PySem.W.mg_of X G a11
  have b_wishes_in_room := F_wishes_in_room.binds (ps := ["m", "v", "room"]) fun _ _ _ _ _ _ us hl => match us, hl with | [_, _, _], _ => rfl
  have F_wishes := fun_mk (st := s_wishes) l12 c12 k12
  have m_wishes := PySem.W.mg_of X G a12
  have m_NOT_AS_TOLD := PySem.W.mg_of X G g_NOT_AS_TOLD
  have m_NOT_THERE := PySem.W.mg_of X G g_NOT_THERE
  have m_GREATEST_SIZE := PySem.W.mg_of X G g_GREATEST_SIZE
  have m_GREATEST_WORTH := PySem.W.mg_of X G g_GREATEST_WORTH
  have m_len := PySem.W.mg_none_of X G z_len
  have m_max := PySem.W.mg_none_of X G z_max
  have m_range := PySem.W.mg_none_of X G z_range
  have m_sum := PySem.W.mg_none_of X G z_sum
  refine ⟨PySem.W.fnOf "wishes" "wishes" (defArgs s_wishes) (defBody s_wishes) (defScope s_wishes) .none kV12 dc12 pm12 an12 cd12 ct12, fun s us hu => match us, hu with | [_, _, _], _ => .of_eq rfl, fun base _ _ => ?_⟩
  have G_is_size := ok_is_size (P := P) (w := w) (mg := mg) (base := base) F_is_size m_GREATEST_SIZE
  have G_is_cake := ok_is_cake (P := P) (w := w) (mg := mg) (base := base) F_is_cake F_is_size G_is_size b_is_size m_is_size m_GREATEST_WORTH m_len m_max
  have G_count_rooms := ok_count_rooms (P := P) (w := w) (mg := mg) (base := base) F_count_rooms
  have G_is_room := ok_is_room (P := P) (w := w) (mg := mg) (base := base) F_is_room F_count_rooms G_count_rooms b_count_rooms m_count_rooms
  have G_whose_place := ok_whose_place (P := P) (w := w) (mg := mg) (base := base) F_whose_place
  have G_corner_of_person := ok_corner_of_person (P := P) (w := w) (mg := mg) (base := base) F_corner_of_person F_whose_place G_whose_place b_whose_place m_whose_place
  have G_three_numbers := ok_three_numbers (P := P) (w := w) (mg := mg) (base := base) F_three_numbers
  have G_piece_worth := ok_piece_worth (P := P) (w := w) (mg := mg) (base := base) F_piece_worth F_three_numbers G_three_numbers b_three_numbers m_three_numbers m_sum
  have G_best_piece := ok_best_piece (P := P) (w := w) (mg := mg) (base := base) F_best_piece F_three_numbers F_piece_worth G_three_numbers G_piece_worth b_three_numbers b_piece_worth m_three_numbers m_piece_worth m_range
  have G_wishes_in_room := ok_wishes_in_room (P := P) (w := w) (mg := mg) (base := base) F_wishes_in_room F_corner_of_person F_best_piece G_corner_of_person G_best_piece b_corner_of_person b_best_piece m_corner_of_person m_best_piece m_range
  have G_all_rooms := ok_all_rooms (P := P) (w := w) (mg := mg) (base := base) F_all_rooms m_range
  exact ok_wishes (P := P) (w := w) (mg := mg) (base := base) F_wishes F_is_cake F_is_room F_wishes_in_room F_all_rooms G_is_cake G_is_room G_wishes_in_room G_all_rooms b_is_cake b_is_room b_wishes_in_room b_all_rooms m_is_cake m_is_room m_wishes_in_room m_all_rooms m_NOT_AS_TOLD m_NOT_THERE
end Fc
open PySem PySem.W PyProof.Rows
set_option maxRecDepth 100000 in
set_option maxHeartbeats 0 in
theorem PySem.Challenge.cw_fixedcakes_s10_wishes_holds : PySem.Challenge.rw_fixedcakes_s10_wishes.Holds := by
  w_on; k_headS; (case hw => exact ⟨[.int 0, .int 0, .list []], by decide +kernel, by decide +kernel⟩)
  k_fillS
  refine L2.walk_specK (r := PySem.Challenge.rw_fixedcakes_s10_wishes) (k := 5) (CX := L2.CX0) (ps := ["m", "k", "v"]) (sp := Fc.spWishes) (by decide +kernel) rfl rfl ⟨rfl, by decide, by decide⟩ (fun w h Y => PySem.W.kIn_of Y) ?F ?S (fun _ _ _ _ z => z)
  case F =>
    intro w mg fa h Y KX G hmg
    refine' Fc.all_mk KX G hmg ?g_NOT_AS_TOLD ?g_NOT_THERE ?g_GREATEST_SIZE ?g_GREATEST_WORTH ?a1 ?l1 ?c1 ?k1 ?a2 ?l2 ?c2 ?k2 ?a3 ?l3 ?c3 ?k3 ?a4 ?l4 ?c4 ?k4 ?a5 ?l5 ?c5 ?k5 ?a6 ?l6 ?c6 ?k6 ?a7 ?l7 ?c7 ?k7 ?a8 ?l8 ?c8 ?k8 ?a9 ?l9 ?c9 ?k9 ?a10 ?l10 ?c10 ?k10 ?a11 ?l11 ?c11 ?k11 ?a12 ?l12 ?c12 ?k12 ?z_len ?z_max ?z_range ?z_sum
    (case g_NOT_AS_TOLD => k_is)
    (case g_NOT_THERE => k_is)
    (case g_GREATEST_SIZE => k_is)
    (case g_GREATEST_WORTH => k_is)
    (case a1 => k_is)
    (case l1 => k_is)
    (case c1 => k_is)
    (case k1 => k_is)
    (case a2 => k_is)
    (case l2 => k_is)
    (case c2 => k_is)
    (case k2 => k_is)
    (case a3 => k_is)
    (case l3 => k_is)
    (case c3 => k_is)
    (case k3 => k_is)
    (case a4 => k_is)
    (case l4 => k_is)
    (case c4 => k_is)
    (case k4 => k_is)
    (case a5 => k_is)
    (case l5 => k_is)
    (case c5 => k_is)
    (case k5 => k_is)
    (case a6 => k_is)
    (case l6 => k_is)
    (case c6 => k_is)
    (case k6 => k_is)
    (case a7 => k_is)
    (case l7 => k_is)
    (case c7 => k_is)
    (case k7 => k_is)
    (case a8 => k_is)
    (case l8 => k_is)
    (case c8 => k_is)
    (case k8 => k_is)
    (case a9 => k_is)
    (case l9 => k_is)
    (case c9 => k_is)
    (case k9 => k_is)
    (case a10 => k_is)
    (case l10 => k_is)
    (case c10 => k_is)
    (case k10 => k_is)
    (case a11 => k_is)
    (case l11 => k_is)
    (case c11 => k_is)
    (case k11 => k_is)
    (case a12 => k_is)
    (case l12 => k_is)
    (case c12 => k_is)
    (case k12 => k_is)
    (case z_len => k_is)
    (case z_max => k_is)
    (case z_range => k_is)
    (case z_sum => k_is)
  case S =>
    intro K H xs a hO hwi hask hx
    exact Fc.request hwi hx
#print axioms PySem.Challenge.cw_fixedcakes_s10_wishes_holds
