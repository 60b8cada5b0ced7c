import PyProof.Rows.All
import Wide.All
import OpenK.AllK
import Wide.FinOn
import Open.SpecLaws
import KE.OsHead
import KE.OsGo
import HandS.Comp
import HandS.Dict
import HandS.ForSpec
import KE.KeyNested
import PyProof.DictRoadsH
import KE.KTupSum
import PySem.Challenge.RW_fixedcakes_s09_shared
set_option Elab.async false
set_option linter.all false
set_option maxRecDepth 100000
set_option maxHeartbeats 4000000
namespace Fc
section
open Kzs2 (places number noOf)
open Kzs3 (okM okMap sent keeps)
abbrev Pl := Kzs2.Place
def cnt (m : Nat) : Nat := (places m).length
theorem okM_iff {m : Nat} : okM m = true ↔ 1 ≤ m ∧ m ≤ 9 := by
  unfold okM Kzs3.most
  rw [Bool.and_eq_true, decide_eq_true_iff, decide_eq_true_iff]
theorem cnt_all : ∀ m : Nat, m < 10 → ((m : Int) + 1) * ((m : Int) + 2) / 2 = ((cnt m : Nat) : Int) := by decide +kernel
theorem cnt_le : ∀ m, m < 10 → cnt m ≤ 55 := by decide +kernel
theorem ix_all : ∀ m : Nat, m < 10 → ∀ j : Nat, j < 10 → ∀ i : Nat, i < 10 → i + j ≤ m → (j : Int) * ((m : Int) + 1) - (j : Int) * ((j : Int) - 1) / 2 + (i : Int) = ((noOf m ⟨i, j⟩ : Nat) : Int) := by decide +kernel
theorem no_lt : ∀ m, m < 10 → ∀ j, j < 10 → ∀ i, i < 10 → i + j ≤ m → noOf m ⟨i, j⟩ < cnt m := by decide +kernel
theorem cnt_int {m : Nat} (h : m ≤ 9) : ((m : Int) + 1) * ((m : Int) + 2) / 2 = ((cnt m : Nat) : Int) := cnt_all m (by omega)
theorem ix_int {m i j : Nat} (h : m ≤ 9) (hp : i + j ≤ m) : (j : Int) * ((m : Int) + 1) - (j : Int) * ((j : Int) - 1) / 2 + (i : Int) = ((noOf m ⟨i, j⟩ : Nat) : Int) := ix_all m (by omega) j (by omega) i (by omega) hp
theorem no_cnt {m : Nat} {p : Pl} (h : m ≤ 9) (hp : p.i + p.j ≤ m) : noOf m p < cnt m := no_lt m (by omega) p.j (by omega) p.i (by omega) hp
theorem okMap_iff {m : Nat} {f : List Nat} : okMap m f = true ↔ f.length = 2 * cnt m ∧ ∀ n, n < cnt m → f.getD (2 * n) 0 + f.getD (2 * n + 1) 0 ≤ m := by
  unfold okMap cnt
  rw [Bool.and_eq_true, beq_iff_eq, List.all_eq_true]
  constructor
  · rintro ⟨h1, h2⟩
    exact ⟨h1, fun n hn => of_decide_eq_true (h2 n (List.mem_range.mpr hn))⟩
  · rintro ⟨h1, h2⟩
    exact ⟨h1, fun n hn => decide_eq_true (h2 n (List.mem_range.mp hn))⟩
theorem sent_ok {m : Nat} {f : List Nat} {p : Pl} (h : m ≤ 9) (ho : okMap m f = true) (hp : p.i + p.j ≤ m) : (sent m f p).i + (sent m f p).j ≤ m :=
  (okMap_iff.mp ho).2 _ (no_cnt h hp)
theorem mem_places {m : Nat} {p : Pl} : p ∈ places m ↔ p.i + p.j ≤ m := by
  unfold places
  rw [List.mem_flatMap]
  constructor
  · rintro ⟨j, hj, h⟩
    obtain ⟨i, hi, rfl⟩ := List.mem_map.mp h
    have := List.mem_range.mp hi
    have := List.mem_range.mp hj
    show i + j ≤ m
    omega
  · intro h
    refine ⟨p.j, List.mem_range.mpr (by omega), List.mem_map.mpr ⟨p.i, List.mem_range.mpr (by omega), rfl⟩⟩
/-- the test of the colour's search -/
def fits (m : Nat) (f : List Nat) (p : Pl) (k : Nat) : Bool := number m p k != 0 && decide (number m (sent m f p) k ≤ number m p k)
def fitting (m : Nat) (f : List Nat) (p : Pl) (n : Nat) : List Nat := (List.range n).filter (fits m f p)
theorem keeps_eq (m : Nat) (f : List Nat) (p : Pl) : keeps m f p = ((List.range 3).find? (fits m f p)).getD 0 := rfl
theorem fit_some {m : Nat} {f : List Nat} {p : Pl} (h1 : 1 ≤ m) (hp : p.i + p.j ≤ m) (hs : (sent m f p).i + (sent m f p).j ≤ m) : ∃ c, c < 3 ∧ fits m f p c = true := by
  by_cases a0 : fits m f p 0 = true
  · exact ⟨0, by omega, a0⟩
  by_cases a1 : fits m f p 1 = true
  · exact ⟨1, by omega, a1⟩
  by_cases a2 : fits m f p 2 = true
  · exact ⟨2, by omega, a2⟩
  exfalso
  unfold fits number at a0 a1 a2
  simp at a0 a1 a2
  omega
theorem fitting_at {m : Nat} {f : List Nat} {p : Pl} (h1 : 1 ≤ m) (hp : p.i + p.j ≤ m) (hs : (sent m f p).i + (sent m f p).j ≤ m) : (fitting m f p 3)[0]? = some (keeps m f p) := by
  rw [← List.head?_eq_getElem?]
  unfold fitting
  rw [List.head?_filter, keeps_eq]
  cases e : (List.range 3).find? (fits m f p) with
  | some c => rfl
  | none =>
    obtain ⟨c, hc, hf⟩ := fit_some h1 hp hs
    exact absurd hf (by simpa using List.find?_eq_none.mp e c (List.mem_range.mpr hc))
theorem fitting_succ (m : Nat) (f : List Nat) (p : Pl) (n : Nat) : fitting m f p (n + 1) = fitting m f p n ++ (if fits m f p n = true then [n] else []) := by
  unfold fitting
  rw [List.range_succ, List.filter_append]
  by_cases h : fits m f p n = true
  · rw [if_pos h, List.filter_cons_of_pos h]; rfl
  · rw [if_neg h, List.filter_cons_of_neg h]; rfl
theorem fitting_len (m : Nat) (f : List Nat) (p : Pl) (n : Nat) : (fitting m f p n).length ≤ n := by
  unfold fitting
  exact Nat.le_trans (List.length_filter_le _ _) (Nat.le_of_eq List.length_range)
/-- the places as the two loops make them: j rows whole, then i places of row j -/
def rowsTo (m j : Nat) : List Pl := (List.range j).flatMap fun j => (List.range (m + 1 - j)).map fun i => ⟨i, j⟩
def partTo (m j i : Nat) : List Pl := rowsTo m j ++ (List.range i).map fun i => ⟨i, j⟩
theorem rowsTo_succ (m j : Nat) : rowsTo m (j + 1) = partTo m j (m + 1 - j) := by
  unfold rowsTo partTo
  rw [List.range_succ, List.flatMap_append]
  rw [List.flatMap_cons, List.flatMap_nil, List.append_nil]
  rfl
theorem partTo_zero (m j : Nat) : partTo m j 0 = rowsTo m j := by
  unfold partTo
  rw [List.range_zero, List.map_nil, List.append_nil]
theorem partTo_succ (m j i : Nat) : partTo m j (i + 1) = partTo m j i ++ [⟨i, j⟩] := by
  unfold partTo
  rw [List.range_succ, List.map_append, List.append_assoc]
  rfl
theorem rowsTo_len (m : Nat) : ∀ j, (rowsTo m j).length ≤ j * (m + 1)
  | 0 => by unfold rowsTo; simp
  | j + 1 => by
    rw [rowsTo_succ]
    unfold partTo
    rw [List.length_append, List.length_map, List.length_range, Nat.succ_mul]
    have := rowsTo_len m j
    omega
theorem partTo_len {m j i : Nat} (hm : m ≤ 9) (hj : j ≤ m) (hi : i ≤ m + 1) : (partTo m j i).length ≤ 100 := by
  unfold partTo
  rw [List.length_append, List.length_map, List.length_range]
  have h := rowsTo_len m j
  have : j * (m + 1) ≤ 9 * 10 := Nat.mul_le_mul (by omega) (by omega)
  omega
theorem take_snoc {α : Type} : ∀ {l : List α} {i : Nat} {x : α}, l[i]? = some x → l.take (i + 1) = l.take i ++ [x]
  | [], i, x, h => by simp at h
  | a :: l, 0, x, h => by
    have e : a = x := Option.some.inj h
    subst e
    rfl
  | a :: l, i + 1, x, h => by
    have ih := take_snoc (l := l) (i := i) (x := x) h
    show a :: l.take (i + 1) = a :: l.take i ++ [x]
    rw [ih]
    rfl
/-! ### the answers -/
def aL (c : Kzs3.Call) : List Int := (Kzs3.answer c).value :: (Kzs3.answer c).nums
def okAll (m : Nat) (f : List Nat) : Bool := okM m && okMap m f
theorem okAll_f {m : Nat} {f : List Nat} (h : okAll m f = false) : okM m = false ∨ okMap m f = false := by
  unfold okAll at h
  rw [Bool.and_eq_false_iff] at h
  exact h
theorem okAll_t {m : Nat} {f : List Nat} (h : okAll m f = true) : ¬ (okM m = false ∨ okMap m f = false) := by
  unfold okAll at h
  rw [Bool.and_eq_true] at h
  rw [h.1, h.2]
  simp
theorem ans_shifts (m i j : Nat) (f : List Nat) : Kzs3.answer (.shifts m i j f) = if okM m = false ∨ okMap m f = false then Kzs1.say (-22) else if m < i + j then Kzs1.say (-2) else Kzs1.told (Kzs3.shifts m f ⟨i, j⟩) := rfl
theorem ans_colours (m : Nat) (f : List Nat) : Kzs3.answer (.mapColours m f) = if okM m = false ∨ okMap m f = false then Kzs1.say (-22) else Kzs1.told (Kzs1.ints (Kzs3.mapColours m f)) := rfl
theorem ans_fixed (m : Nat) (f : List Nat) : Kzs3.answer (.fixed m f) = if okM m = false ∨ okMap m f = false then Kzs1.say (-22) else ⟨((Kzs3.fixed m f).length : Nat), (Kzs3.fixed m f).flatMap fun p => [(p.i : Int), (p.j : Int)]⟩ := rfl
theorem natsOf_cast : ∀ f : List Nat, Kzs3Neutral.natsOf (f.map fun x : Nat => (x : Int)) = f
  | [] => rfl
  | a :: r => by
    show ((a : Int).toNat) :: Kzs3Neutral.natsOf (r.map fun x : Nat => (x : Int)) = a :: r
    rw [natsOf_cast r]
    rfl
end
section
section
open Kzs2 (places number noOf Room corners rooms sides colour)
open Kzs3 (okM okCake slice from1 worth choice owner cakeColours wishes envy)
/-! ### the most of a list -/
theorem max_ge : ∀ (l : List Nat) (a : Nat), a ≤ l.foldl max a
  | [], a => Nat.le_refl _
  | x :: l, a => Nat.le_trans (Nat.le_max_left a x) (max_ge l (max a x))
theorem max_mem : ∀ (l : List Nat) (a : Nat), ∀ x ∈ l, x ≤ l.foldl max a
  | [], _, x, h => by cases h
  | y :: l, a, x, h => by
    rcases List.mem_cons.mp h with rfl | h
    · exact Nat.le_trans (Nat.le_max_right a x) (max_ge l (max a x))
    · exact max_mem l (max a y) x h
theorem max_is : ∀ (l : List Nat) (a : Nat), l.foldl max a = a ∨ l.foldl max a ∈ l
  | [], _ => .inl rfl
  | y :: l, a => by
    rcases max_is l (max a y) with e | e
    · by_cases h : a ≤ y
      · rw [Nat.max_eq_right h] at e
        exact .inr (by show l.foldl max (max a y) ∈ y :: l; rw [Nat.max_eq_right h, e]; exact List.mem_cons_self)
      · rw [Nat.max_eq_left (by omega)] at e
        exact .inl (by show l.foldl max (max a y) = a; rw [Nat.max_eq_left (by omega), e])
    · exact .inr (List.mem_cons_of_mem _ e)
theorem max_eq {l : List Nat} {d : Nat} (h1 : ∀ x ∈ l, x ≤ d) (h2 : d = 0 ∨ d ∈ l) : l.foldl max 0 = d := by
  refine Nat.le_antisymm ?_ ?_
  · rcases max_is l 0 with e | e
    · rw [e]; exact Nat.zero_le _
    · exact h1 _ e
  · rcases h2 with rfl | h
    · exact Nat.zero_le _
    · exact max_mem l 0 d h
/-! ### the piece that one likes best -/
def likes (m : Nat) (v : List Nat) (c : Nat) (p : Pl) : Option Nat → Nat → Option Nat := fun b k => match b with
  | none => some k
  | some a => if worth m v c p a < worth m v c p k then some k else some a
def full (m : Nat) (p : Pl) : List Nat := (List.range 3).filter fun k => number m p k != 0
theorem choice_fold (m : Nat) (v : List Nat) (c : Nat) (p : Pl) : choice m v c p = ((full m p).foldl (likes m v c p) none).getD 0 := rfl
/-- of a row that rises, from a on: the first that is worth most -/
theorem likes_from (m : Nat) (v : List Nat) (c : Nat) (p : Pl) : ∀ (l : List Nat) (a : Nat), ∃ k, l.foldl (likes m v c p) (some a) = some k ∧ k ∈ a :: l ∧ (∀ x ∈ a :: l, worth m v c p x ≤ worth m v c p k) ∧
    ((a :: l).Pairwise (· < ·) → ∀ x ∈ a :: l, x < k → worth m v c p x < worth m v c p k)
  | [], a => ⟨a, rfl, List.mem_cons_self, fun x hx => by
      have : x = a := by simpa using hx
      rw [this]
      exact Nat.le_refl _, fun _ x hx hlt => by
      have : x = a := by simpa using hx
      omega⟩
  | y :: l, a => by
    by_cases h : worth m v c p a < worth m v c p y
    · obtain ⟨k, e, hk, hm, hf⟩ := likes_from m v c p l y
      refine ⟨k, ?_, List.mem_cons_of_mem _ hk, ?_, ?_⟩
      · show l.foldl (likes m v c p) (if worth m v c p a < worth m v c p y then some y else some a) = some k
        rw [if_pos h]
        exact e
      · intro x hx
        rcases List.mem_cons.mp hx with rfl | hx
        · have := hm y List.mem_cons_self
          omega
        · exact hm x hx
      · intro hp x hx hlt
        have hp' := (List.pairwise_cons.mp hp).2
        rcases List.mem_cons.mp hx with rfl | hx
        · have := hm y List.mem_cons_self
          omega
        · exact hf hp' x hx hlt
    · obtain ⟨k, e, hk, hm, hf⟩ := likes_from m v c p l a
      refine ⟨k, ?_, ?_, ?_, ?_⟩
      · show l.foldl (likes m v c p) (if worth m v c p a < worth m v c p y then some y else some a) = some k
        rw [if_neg h]
        exact e
      · rcases List.mem_cons.mp hk with rfl | hk
        · exact List.mem_cons_self
        · exact List.mem_cons_of_mem _ (List.mem_cons_of_mem _ hk)
      · intro x hx
        rcases List.mem_cons.mp hx with rfl | hx
        · exact hm _ List.mem_cons_self
        · rcases List.mem_cons.mp hx with rfl | hx
          · have := hm a List.mem_cons_self
            omega
          · exact hm x (List.mem_cons_of_mem _ hx)
      · intro hp x hx hlt
        have h1 := (List.pairwise_cons.mp hp).1
        have h2 := (List.pairwise_cons.mp hp).2
        have hp' : (a :: l).Pairwise (· < ·) := List.pairwise_cons.mpr ⟨fun z hz => h1 z (List.mem_cons_of_mem _ hz), (List.pairwise_cons.mp h2).2⟩
        rcases List.mem_cons.mp hx with rfl | hx
        · exact hf hp' _ List.mem_cons_self hlt
        · rcases List.mem_cons.mp hx with rfl | hx
          · have ha : a < x := h1 x List.mem_cons_self
            have := hf hp' a List.mem_cons_self (by omega)
            omega
          · exact hf hp' x (List.mem_cons_of_mem _ hx) hlt
theorem mem_full {m k : Nat} {p : Pl} : k ∈ full m p ↔ k < 3 ∧ number m p k ≠ 0 := by
  unfold full
  rw [List.mem_filter, List.mem_range, bne_iff_ne]
theorem full_rises (m : Nat) (p : Pl) : (full m p).Pairwise (· < ·) := List.Pairwise.filter _ List.pairwise_lt_range
theorem full_some {m : Nat} {p : Pl} (h1 : 1 ≤ m) (hp : p.i + p.j ≤ m) : ∃ k, k ∈ full m p := by
  by_cases a : p.i = 0
  · by_cases b : p.j = 0
    · exact ⟨2, mem_full.mpr ⟨by omega, by show m - p.i - p.j ≠ 0; omega⟩⟩
    · exact ⟨1, mem_full.mpr ⟨by omega, b⟩⟩
  · exact ⟨0, mem_full.mpr ⟨by omega, a⟩⟩
theorem choice_is {m : Nat} {v : List Nat} {c : Nat} {p : Pl} (h1 : 1 ≤ m) (hp : p.i + p.j ≤ m) : choice m v c p ∈ full m p ∧ (∀ x ∈ full m p, worth m v c p x ≤ worth m v c p (choice m v c p)) ∧ ∀ x ∈ full m p, x < choice m v c p → worth m v c p x < worth m v c p (choice m v c p) := by
  rw [choice_fold]
  have hr := full_rises m p
  obtain ⟨z, hz⟩ := full_some h1 hp
  cases e : full m p with
  | nil => rw [e] at hz; cases hz
  | cons a l =>
    rw [e] at hr
    obtain ⟨k, e1, e2, e3, e4⟩ := likes_from m v c p l a
    have e5 : ((a :: l).foldl (likes m v c p) none).getD 0 = k := by
      show (l.foldl (likes m v c p) (some a)).getD 0 = k
      rw [e1]
      rfl
    rw [e5]
    exact ⟨e2, e3, e4 hr⟩
theorem choice_eq {m : Nat} {v : List Nat} {c k : Nat} {p : Pl} (h1 : 1 ≤ m) (hp : p.i + p.j ≤ m) (hk : k < 3) (hn : number m p k ≠ 0) (ha : ∀ x, x < 3 → number m p x ≠ 0 → worth m v c p x ≤ worth m v c p k)
    (hb : ∀ x, x < k → number m p x ≠ 0 → worth m v c p x < worth m v c p k) : choice m v c p = k := by
  obtain ⟨c1, c2, c3⟩ := choice_is (v := v) (c := c) h1 hp
  obtain ⟨d1, d2⟩ := mem_full.mp c1
  have a1 := ha _ d1 d2
  have a2 := c2 k (mem_full.mpr ⟨hk, hn⟩)
  by_cases h : choice m v c p < k
  · have := hb _ h d2
    omega
  · by_cases h' : k < choice m v c p
    · have := c3 k (mem_full.mpr ⟨hk, hn⟩) h'
      omega
    · omega
/-! ### what a piece is worth -/
theorem fold_sum : ∀ (l : List Nat) (a : Nat), l.foldl (· + ·) a = a + l.sum
  | [], a => by simp
  | x :: l, a => by
    rw [List.foldl_cons, fold_sum l, List.sum_cons]
    omega
def pieceL (m : Nat) (v : List Nat) (c : Nat) (p : Pl) (k : Nat) : List Nat := (List.range (number m p k)).map fun s => slice m v c (from1 p k + s)
theorem worth_sum (m : Nat) (v : List Nat) (c : Nat) (p : Pl) (k : Nat) : worth m v c p k = (pieceL m v c p k).sum := by
  show (pieceL m v c p k).foldl (· + ·) 0 = _
  rw [fold_sum, Nat.zero_add]
theorem okCake_iff {m : Nat} {v : List Nat} : okCake m v = true ↔ v.length = 3 * m ∧ ∀ x ∈ v, x ≤ 1000 := by
  unfold okCake
  rw [Bool.and_eq_true, beq_iff_eq, List.all_eq_true]
  constructor
  · rintro ⟨a, b⟩
    exact ⟨a, fun x hx => of_decide_eq_true (b x hx)⟩
  · rintro ⟨a, b⟩
    exact ⟨a, fun x hx => decide_eq_true (b x hx)⟩
theorem range_take {α : Type} (v : List α) (d : α) (s n : Nat) (h : s + n ≤ v.length) : (List.range n).map (fun i => v.getD (s + i) d) = (v.drop s).take n := by
  refine List.ext_getElem? fun i => ?_
  rw [List.getElem?_map, List.getElem?_take]
  by_cases hi : i < n
  · rw [List.getElem?_range hi, if_pos hi, List.getElem?_drop, List.getElem?_eq_getElem (by omega)]
    show some (v.getD (s + i) d) = _
    rw [List.getD_eq_getElem?_getD, List.getElem?_eq_getElem (by omega)]
    rfl
  · rw [if_neg hi, List.getElem?_eq_none (by rw [List.length_range]; omega)]
    rfl
theorem from_in {m : Nat} {p : Pl} {k : Nat} (hp : p.i + p.j ≤ m) (hk : k < 3) : from1 p k + number m p k ≤ m := by
  match k, hk with
  | 0, _ => show 0 + p.i ≤ m; omega
  | 1, _ => show p.i + p.j ≤ m; omega
  | 2, _ => show p.i + p.j + (m - p.i - p.j) ≤ m; omega
theorem piece_slice {m : Nat} {v : List Nat} {c k : Nat} {p : Pl} (hv : v.length = 3 * m) (hc : c < 3) (hp : p.i + p.j ≤ m) (hk : k < 3) : pieceL m v c p k = (v.drop (c * m + from1 p k)).take (number m p k) := by
  unfold pieceL
  rw [← range_take v 0 (c * m + from1 p k) (number m p k) ?_]
  · refine List.map_congr_left fun s _ => ?_
    show v.getD (c * m + (from1 p k + s)) 0 = v.getD (c * m + from1 p k + s) 0
    rw [Nat.add_assoc]
  · have h1 := from_in hp hk
    have h2 : c * m ≤ 2 * m := Nat.mul_le_mul_right m (by omega)
    omega
def okC (m : Nat) (v : List Nat) : Bool := okM m && okCake m v
theorem okC_f {m : Nat} {v : List Nat} (h : okC m v = false) : okM m = false ∨ okCake m v = false := by
  unfold okC at h
  rw [Bool.and_eq_false_iff] at h
  exact h
theorem okC_t {m : Nat} {v : List Nat} (h : okC m v = true) : ¬ (okM m = false ∨ okCake m v = false) := by
  unfold okC at h
  rw [Bool.and_eq_true] at h
  rw [h.1, h.2]
  simp
theorem okC_s {m : Nat} {v : List Nat} (h : okC m v = true) : 1 ≤ m ∧ m ≤ 9 ∧ v.length = 3 * m ∧ ∀ x ∈ v, x ≤ 1000 := by
  unfold okC at h
  rw [Bool.and_eq_true] at h
  obtain ⟨a, b⟩ := okM_iff.mp h.1
  obtain ⟨c, d⟩ := okCake_iff.mp h.2
  exact ⟨a, b, c, d⟩
theorem sum_cast : ∀ l : List Nat, (l.map fun x : Nat => (x : Int)).sum = ((l.sum : Nat) : Int)
  | [] => rfl
  | x :: l => by
    rw [List.map_cons, List.sum_cons, List.sum_cons, sum_cast l]
    omega
/-! ### the search as the loop makes it -/
theorem full_at {m : Nat} {p : Pl} (h1 : 1 ≤ m) (hp : p.i + p.j ≤ m) : ∃ a, (full m p)[0]? = some a ∧ a < 3 := by
  obtain ⟨k, hk⟩ := full_some h1 hp
  cases e : full m p with
  | nil => rw [e] at hk; cases hk
  | cons a l => exact ⟨a, rfl, (mem_full.mp (e ▸ List.mem_cons_self)).1⟩
theorem likes_all {m : Nat} {v : List Nat} {c a b : Nat} {p : Pl} (h : (full m p)[0]? = some a) (hb : (full m p).foldl (likes m v c p) (some a) = some b) : choice m v c p = b := by
  rw [choice_fold]
  cases e : full m p with
  | nil => rw [e] at h; cases h
  | cons x l =>
    rw [e] at h hb
    have : x = a := Option.some.inj h
    subst this
    have e1 : likes m v c p (some x) x = some x := if_neg (Nat.lt_irrefl _)
    rw [List.foldl_cons, e1] at hb
    show (l.foldl (likes m v c p) (some x)).getD 0 = b
    rw [hb]
    rfl
def fullTo (m : Nat) (p : Pl) (n : Nat) : List Nat := (List.range n).filter fun k => number m p k != 0
theorem fullTo_succ (m : Nat) (p : Pl) (n : Nat) : fullTo m p (n + 1) = fullTo m p n ++ (if (number m p n != 0) = true then [n] else []) := by
  unfold fullTo
  rw [List.range_succ, List.filter_append]
  by_cases h : (number m p n != 0) = true
  · rw [if_pos h, List.filter_cons_of_pos (p := fun k => number m p k != 0) h]; rfl
  · rw [if_neg h, List.filter_cons_of_neg (p := fun k => number m p k != 0) h]; rfl
theorem fullTo_len (m : Nat) (p : Pl) (n : Nat) : (fullTo m p n).length ≤ n := by
  unfold fullTo
  exact Nat.le_trans (List.length_filter_le _ _) (Nat.le_of_eq List.length_range)
theorem ans_apart (m : Nat) (f : List Nat) : Kzs3.answer (.apart m f) = if okM m = false ∨ Kzs3.okMap m f = false then Kzs1.say (-22) else Kzs1.say (Kzs3.apart m f : Nat) := rfl
theorem ans_cake (m : Nat) (v : List Nat) : Kzs3.answer (.cakeColours m v) = if okM m = false ∨ okCake m v = false then Kzs1.say (-22) else Kzs1.told (Kzs1.ints (cakeColours m v)) := rfl
theorem ans_choice (m c i j : Nat) (v : List Nat) : Kzs3.answer (.choice m c i j v) = if okM m = false ∨ okCake m v = false then Kzs1.say (-22) else if m < i + j ∨ 2 < c then Kzs1.say (-2) else Kzs1.say (choice m v c ⟨i, j⟩ : Nat) := rfl
theorem ans_worth (m c i j k : Nat) (v : List Nat) : Kzs3.answer (.worth m c i j k v) = if okM m = false ∨ okCake m v = false then Kzs1.say (-22) else if m < i + j ∨ 2 < c ∨ 2 < k then Kzs1.say (-2) else Kzs1.say (worth m v c ⟨i, j⟩ k : Nat) := rfl
end
end
section
section
open Kzs2 (places number noOf Room corners rooms sides colour)
/-! ### the rooms as the two loops make them -/
def upC (i j : Nat) : List Pl := [⟨i, j⟩, ⟨i + 1, j⟩, ⟨i, j + 1⟩]
def dnC (i j : Nat) : List Pl := [⟨i + 1, j + 1⟩, ⟨i, j + 1⟩, ⟨i + 1, j⟩]
def oneC (m j i : Nat) : List (List Pl) := if i + j + 2 ≤ m then [upC i j, dnC i j] else [upC i j]
def rRows (m j : Nat) : List (List Pl) := (List.range j).flatMap fun j => (List.range (m - j)).flatMap fun i => oneC m j i
def rPart (m j i : Nat) : List (List Pl) := rRows m j ++ (List.range i).flatMap fun i => oneC m j i
theorem rRows_succ (m j : Nat) : rRows m (j + 1) = rPart m j (m - j) := by
  unfold rRows rPart
  rw [List.range_succ, List.flatMap_append, List.flatMap_cons, List.flatMap_nil, List.append_nil]
  rfl
theorem rPart_zero (m j : Nat) : rPart m j 0 = rRows m j := by
  unfold rPart
  rw [List.range_zero, List.flatMap_nil, List.append_nil]
theorem rPart_succ (m j i : Nat) : rPart m j (i + 1) = rPart m j i ++ oneC m j i := by
  unfold rPart
  rw [List.range_succ, List.flatMap_append, List.flatMap_cons, List.flatMap_nil, List.append_nil, List.append_assoc]
theorem rRows_all (m : Nat) : rRows m m = (rooms m).map corners := by
  unfold rRows rooms
  rw [List.map_flatMap]
  congr 1
  funext j
  rw [List.map_flatMap]
  congr 1
  funext i
  unfold oneC
  by_cases h : i + j + 2 ≤ m
  · rw [if_pos h, if_pos h]
    rfl
  · rw [if_neg h, if_neg h]
    rfl
theorem rRows_len (m : Nat) : ∀ j, (rRows m j).length ≤ j * (2 * m)
  | 0 => by unfold rRows; simp
  | j + 1 => by
    rw [rRows_succ]
    have go : ∀ i, (rPart m j i).length ≤ (rRows m j).length + 2 * i := by
      intro i
      induction i with
      | zero => rw [rPart_zero]; omega
      | succ i ih =>
        rw [rPart_succ, List.length_append]
        have : (oneC m j i).length ≤ 2 := by unfold oneC; split <;> simp
        omega
    have h1 := go (m - j)
    have h2 := rRows_len m j
    rw [Nat.succ_mul]
    omega
theorem rPart_len {m j i : Nat} (hm : m ≤ 9) (hj : j ≤ m) (hi : i ≤ m) : (rPart m j i).length ≤ 200 := by
  have go : ∀ i, (rPart m j i).length ≤ (rRows m j).length + 2 * i := by
    intro i
    induction i with
    | zero => rw [rPart_zero]; omega
    | succ i ih =>
      rw [rPart_succ, List.length_append]
      have : (oneC m j i).length ≤ 2 := by unfold oneC; split <;> simp
      omega
  have h1 := go i
  have h2 := rRows_len m j
  have h3 : j * (2 * m) ≤ 9 * 18 := Nat.mul_le_mul (by omega) (by omega)
  omega
theorem corners_three (r : Room) : ∃ a b d, corners r = [a, b, d] := by
  unfold corners
  by_cases h : r.u = true
  · rw [if_pos h]; exact ⟨_, _, _, rfl⟩
  · rw [if_neg h]; exact ⟨_, _, _, rfl⟩
/-- a room's corners are places -/
theorem room_in {m : Nat} {r : Room} (hr : r ∈ rooms m) {p : Pl} (hp : p ∈ corners r) : p.i + p.j ≤ m := by
  unfold rooms at hr
  obtain ⟨j, hj, hr⟩ := List.mem_flatMap.mp hr
  obtain ⟨i, hi, hr⟩ := List.mem_flatMap.mp hr
  have hj := List.mem_range.mp hj
  have hi := List.mem_range.mp hi
  have hu : corners (⟨i, j, true⟩ : Room) = upC i j := rfl
  have hd : corners (⟨i, j, false⟩ : Room) = dnC i j := rfl
  by_cases h : i + j + 2 ≤ m
  · rw [if_pos h] at hr
    simp only [List.mem_cons, List.not_mem_nil, or_false] at hr
    rcases hr with rfl | rfl
    · rw [hu] at hp
      simp only [upC, List.mem_cons, List.not_mem_nil, or_false] at hp
      rcases hp with rfl | rfl | rfl <;> simp only <;> omega
    · rw [hd] at hp
      simp only [dnC, List.mem_cons, List.not_mem_nil, or_false] at hp
      rcases hp with rfl | rfl | rfl <;> simp only <;> omega
  · rw [if_neg h] at hr
    simp only [List.mem_cons, List.not_mem_nil, or_false] at hr
    subst hr
    rw [hu] at hp
    simp only [upC, List.mem_cons, List.not_mem_nil, or_false] at hp
    rcases hp with rfl | rfl | rfl <;> simp only <;> omega
theorem rooms_pos {m : Nat} (h1 : 1 ≤ m) : 0 < (rooms m).length := by
  cases e : rooms m with
  | nil =>
    have hm : (⟨0, 0, true⟩ : Room) ∈ rooms m := by
      unfold rooms
      refine List.mem_flatMap.mpr ⟨0, List.mem_range.mpr h1, List.mem_flatMap.mpr ⟨0, List.mem_range.mpr (by omega), ?_⟩⟩
      by_cases h : 0 + 0 + 2 ≤ m
      · rw [if_pos h]; exact List.mem_cons_self
      · rw [if_neg h]; exact List.mem_cons_self
    rw [e] at hm
    cases hm
  | cons a l => exact Nat.succ_pos _
theorem rooms_le : ∀ m, m < 10 → (rooms m).length ≤ 81 := by decide +kernel
/-! ### how far apart a room's corners are sent -/
/-- d is the most by which one of the first c numbers is greater where one of these places is sent than where another is -/
def IsMost (m : Nat) (f : List Nat) (ps : List Pl) (c d : Nat) : Prop :=
  (∀ k, k < c → ∀ p ∈ ps, ∀ q ∈ ps, number m (Kzs3.sent m f p) k - number m (Kzs3.sent m f q) k ≤ d) ∧ (d = 0 ∨ ∃ k, k < c ∧ ∃ p ∈ ps, ∃ q ∈ ps, d = number m (Kzs3.sent m f p) k - number m (Kzs3.sent m f q) k)
def roomL (m : Nat) (f : List Nat) (ps : List Pl) : List Nat := ps.flatMap fun p => ps.flatMap fun q => (List.range 3).map fun k => number m (Kzs3.sent m f p) k - number m (Kzs3.sent m f q) k
def roomA (m : Nat) (f : List Nat) (ps : List Pl) : Nat := (roomL m f ps).foldl max 0
theorem mem_roomL {m : Nat} {f : List Nat} {ps : List Pl} {x : Nat} : x ∈ roomL m f ps ↔ ∃ p ∈ ps, ∃ q ∈ ps, ∃ k, k < 3 ∧ number m (Kzs3.sent m f p) k - number m (Kzs3.sent m f q) k = x := by
  unfold roomL
  simp only [List.mem_flatMap, List.mem_map, List.mem_range]
theorem isMost_zero (m : Nat) (f : List Nat) (ps : List Pl) : IsMost m f ps 0 0 := ⟨fun k hk => absurd hk (Nat.not_lt_zero _), .inl rfl⟩
theorem isMost_succ {m : Nat} {f : List Nat} {ps : List Pl} {c d : Nat} {p q : Pl} (h : IsMost m f ps c d) (hp : p ∈ ps) (hq : q ∈ ps) (ha : ∀ x ∈ ps, number m (Kzs3.sent m f x) c ≤ number m (Kzs3.sent m f p) c)
    (hb : ∀ x ∈ ps, number m (Kzs3.sent m f q) c ≤ number m (Kzs3.sent m f x) c) : IsMost m f ps (c + 1) (max d (number m (Kzs3.sent m f p) c - number m (Kzs3.sent m f q) c)) := by
  refine ⟨fun k hk x hx y hy => ?_, ?_⟩
  · by_cases e : k = c
    · subst e
      have := ha x hx
      have := hb y hy
      omega
    · have := h.1 k (by omega) x hx y hy
      omega
  · by_cases e : d ≤ number m (Kzs3.sent m f p) c - number m (Kzs3.sent m f q) c
    · exact .inr ⟨c, by omega, p, hp, q, hq, by omega⟩
    · rw [Nat.max_eq_left (by omega)]
      rcases h.2 with z | ⟨k, hk, z⟩
      · exact .inl z
      · exact .inr ⟨k, by omega, z⟩
theorem isMost_all {m : Nat} {f : List Nat} {ps : List Pl} {d : Nat} (h : IsMost m f ps 3 d) : roomA m f ps = d := by
  refine max_eq (fun x hx => ?_) ?_
  · obtain ⟨p, hp, q, hq, k, hk, rfl⟩ := mem_roomL.mp hx
    exact h.1 k hk p hp q hq
  · rcases h.2 with z | ⟨k, hk, p, hp, q, hq, z⟩
    · exact .inl z
    · exact .inr (mem_roomL.mpr ⟨p, hp, q, hq, k, hk, z.symm⟩)
theorem apart_eq {m : Nat} {f : List Nat} {d : Nat} (h1 : ∀ r ∈ rooms m, roomA m f (corners r) ≤ d) (h2 : ∃ r ∈ rooms m, roomA m f (corners r) = d) : Kzs3.apart m f = d := by
  show ((rooms m).flatMap fun r => roomL m f (corners r)).foldl max 0 = d
  refine max_eq (fun x hx => ?_) ?_
  · obtain ⟨r, hr, hx⟩ := List.mem_flatMap.mp hx
    exact Nat.le_trans (max_mem (roomL m f (corners r)) 0 x hx) (h1 r hr)
  · obtain ⟨r, hr, e⟩ := h2
    rcases max_is (roomL m f (corners r)) 0 with z | z
    · left
      rw [← e]
      exact z
    · right
      refine List.mem_flatMap.mpr ⟨r, hr, ?_⟩
      rw [← e]
      exact z
end
end
section
section
open Kzs2 (places number noOf Room corners rooms sides colour)
open Kzs3 (okM okCake slice from1 worth choice owner cakeColours wishes envy)
/-! ### whose corner: of the corners of a room each is another one's -/
theorem corners_owner (r : Room) : ∃ a b d, corners r = [a, b, d] ∧ owner a < 3 ∧ owner b < 3 ∧ owner d < 3 ∧ owner a ≠ owner b ∧ owner b ≠ owner d ∧ owner a ≠ owner d := by
  unfold corners
  by_cases h : r.u = true
  · rw [if_pos h]
    refine ⟨_, _, _, rfl, ?_⟩
    unfold owner
    simp only
    omega
  · rw [if_neg h]
    refine ⟨_, _, _, rfl, ?_⟩
    unfold owner
    simp only
    omega
theorem owner_inj {r : Room} {p q : Pl} (hp : p ∈ corners r) (hq : q ∈ corners r) (e : owner p = owner q) : p = q := by
  obtain ⟨a, b, d, ec, _, _, _, n1, n2, n3⟩ := corners_owner r
  rw [ec] at hp hq
  simp only [List.mem_cons, List.not_mem_nil, or_false] at hp hq
  rcases hp with rfl | rfl | rfl <;> rcases hq with rfl | rfl | rfl <;> first | rfl | omega
theorem owner_some {r : Room} {c : Nat} (hc : c < 3) : ∃ p, p ∈ corners r ∧ owner p = c := by
  obtain ⟨a, b, d, ec, l1, l2, l3, n1, n2, n3⟩ := corners_owner r
  rw [ec]
  by_cases ha : owner a = c
  · exact ⟨a, by simp, ha⟩
  · by_cases hb : owner b = c
    · exact ⟨b, by simp, hb⟩
    · exact ⟨d, by simp, by omega⟩
theorem find_owner {r : Room} {c : Nat} (hc : c < 3) : ∃ p, ((corners r).find? fun p => owner p == c) = some p ∧ p ∈ corners r ∧ owner p = c := by
  cases e : (corners r).find? fun p => owner p == c with
  | some p => exact ⟨p, rfl, List.mem_of_find?_eq_some e, by simpa using List.find?_some e⟩
  | none =>
    obtain ⟨p, hp, ho⟩ := owner_some (r := r) hc
    exact absurd (List.find?_eq_none.mp e p hp) (by simp [ho])
/-- person c's corner of a room -/
def cornerOf (r : Room) (c : Nat) : Pl := ((corners r).find? fun p => owner p == c).getD ⟨0, 0⟩
theorem cornerOf_is {r : Room} {c : Nat} (hc : c < 3) : cornerOf r c ∈ corners r ∧ owner (cornerOf r c) = c := by
  obtain ⟨p, e, h1, h2⟩ := find_owner (r := r) hc
  unfold cornerOf
  rw [e]
  exact ⟨h1, h2⟩
theorem cornerOf_eq {r : Room} {c : Nat} {p : Pl} (hp : p ∈ corners r) (e : owner p = c) : cornerOf r c = p := by
  have hc : c < 3 := by rw [← e]; exact Nat.mod_lt _ (by decide)
  obtain ⟨h1, h2⟩ := cornerOf_is (r := r) hc
  exact owner_inj h1 hp (by rw [h2, e])
/-- .. as a list that is searched: the corners that are c's -/
theorem filter_owner {r : Room} {c : Nat} (hc : c < 3) : ((corners r).filter fun p => owner p == c)[0]? = some (cornerOf r c) := by
  rw [← List.head?_eq_getElem?, List.head?_filter]
  obtain ⟨p, e, _⟩ := find_owner (r := r) hc
  unfold cornerOf
  rw [e]
  rfl
theorem wishes_eq (m : Nat) (v : List Nat) (r : Room) : wishes m v r = (List.range 3).map fun c => (cornerOf r c, choice m v c (cornerOf r c)) := by
  unfold wishes
  refine List.map_congr_left fun c hc => ?_
  obtain ⟨p, e, _⟩ := find_owner (r := r) (List.mem_range.mp hc)
  unfold cornerOf
  rw [e]
  rfl
def wishL (m : Nat) (v : List Nat) (r : Room) (n : Nat) : List Int := (List.range n).flatMap fun c => [((cornerOf r c).i : Int), ((cornerOf r c).j : Int), ((choice m v c (cornerOf r c) : Nat) : Int)]
theorem wishL_succ (m : Nat) (v : List Nat) (r : Room) (n : Nat) : wishL m v r (n + 1) = wishL m v r n ++ [((cornerOf r n).i : Int), ((cornerOf r n).j : Int), ((choice m v n (cornerOf r n) : Nat) : Int)] := by
  unfold wishL
  rw [List.range_succ, List.flatMap_append, List.flatMap_cons, List.flatMap_nil, List.append_nil]
theorem wishL_len (m : Nat) (v : List Nat) (r : Room) : ∀ n, (wishL m v r n).length = 3 * n
  | 0 => rfl
  | n + 1 => by
    rw [wishL_succ, List.length_append, wishL_len m v r n]
    show 3 * n + 3 = _
    omega
theorem wishes_flat (m : Nat) (v : List Nat) (r : Room) : ((wishes m v r).flatMap fun y => [(y.1.i : Int), (y.1.j : Int), (y.2 : Int)]) = wishL m v r 3 := by
  rw [wishes_eq, List.flatMap_map]
  rfl
/-! ### envy -/
theorem envy_eq {m : Nat} {v : List Nat} {p : Pl} {c k z : Nat} (hz : z < 3) (hm : ∀ x, x < 3 → worth m v c p x ≤ worth m v c p z) : envy m v p c k = worth m v c p z - worth m v c p k := by
  unfold envy
  refine max_eq (fun x hx => ?_) ?_
  · obtain ⟨y, hy, rfl⟩ := List.mem_map.mp hx
    have := hm y (List.mem_range.mp hy)
    omega
  · exact .inr (List.mem_map.mpr ⟨z, List.mem_range.mpr hz, rfl⟩)
theorem rooms_cnt : ∀ m, m < 10 → (rooms m).length = m * m := by decide +kernel
theorem ans_shared (m : Nat) (v : List Nat) : Kzs3.answer (.shared m v) = if okM m = false ∨ okCake m v = false then Kzs1.say (-22) else match Kzs2.first m (cakeColours m v) with
    | none => Kzs1.say (-33)
    | some k => ⟨(k : Nat), (wishes m v ((rooms m).getD k ⟨0, 0, true⟩)).flatMap fun y => [(y.1.i : Int), (y.1.j : Int), (y.2 : Int)]⟩ := rfl
theorem ans_wishes (m k : Nat) (v : List Nat) : Kzs3.answer (.wishes m k v) = if okM m = false ∨ okCake m v = false then Kzs1.say (-22) else match (rooms m)[k]? with
    | none => Kzs1.say (-2)
    | some r => Kzs1.told ((wishes m v r).flatMap fun y => [(y.1.i : Int), (y.1.j : Int), (y.2 : Int)]) := rfl
theorem ans_envies (m i j : Nat) (v w : List Nat) : Kzs3.answer (.envies m i j v w) = if okM m = false ∨ okCake m v = false ∨ w.length ≠ 3 ∨ (w.any fun k => decide (2 < k)) = true then Kzs1.say (-22) else if m < i + j then Kzs1.say (-2) else Kzs1.told ((List.range 3).map fun c => ((envy m v ⟨i, j⟩ c (w.getD c 0) : Nat) : Int)) := rfl
def okW (w : List Nat) : Bool := w.length == 3 && !(w.any fun k => decide (2 < k))
theorem okW_iff {w : List Nat} : okW w = true ↔ w.length = 3 ∧ ∀ x ∈ w, x < 3 := by
  unfold okW
  rw [Bool.and_eq_true, beq_iff_eq, Bool.not_eq_true', List.any_eq_false]
  constructor
  · rintro ⟨h1, h2⟩
    refine ⟨h1, fun x hx => ?_⟩
    have : ¬ 2 < x := fun z => h2 x hx (decide_eq_true z)
    omega
  · rintro ⟨h1, h2⟩
    refine ⟨h1, fun x hx z => ?_⟩
    have := h2 x hx
    have := of_decide_eq_true z
    omega
theorem okW_f {w : List Nat} (h : okW w = false) : w.length ≠ 3 ∨ (w.any fun k => decide (2 < k)) = true := by
  by_cases hl : w.length = 3
  · cases ha : w.any fun k => decide (2 < k) with
    | true => exact .inr rfl
    | false =>
      unfold okW at h
      rw [ha, hl] at h
      exact absurd h (by decide)
  · exact .inl hl
theorem okW_t {w : List Nat} (h : okW w = true) : ¬ (w.length ≠ 3 ∨ (w.any fun k => decide (2 < k)) = true) := by
  unfold okW at h
  rw [Bool.and_eq_true, beq_iff_eq, Bool.not_eq_true'] at h
  rintro (z | z)
  · exact z h.1
  · rw [h.2] at z
    exact Bool.false_ne_true z
end
end
section
open Kzs2 (places number noOf Room corners rooms sides beyond outer)
abbrev Sd := Pl × Pl
def pts (m : Nat) : List (List Sd) := (rooms m).map sides ++ (List.range m).map fun i => [((⟨i, m - i⟩ : Pl), (⟨i + 1, m - i - 1⟩ : Pl))]
def own (m : Nat) (s : Sd) : Option Nat := (pts m).findIdx? fun l => l.contains s
def byond (m : Nat) (s : Sd) : Nat := match beyond m s with
  | some k => k
  | none => outer m s
def rev (s : Sd) : Sd := (s.2, s.1)
def sideOk (m v : Nat) (s : Sd) : Bool := own m s == some v && (decide (s.1.i + s.1.j ≤ m) && decide (s.2.i + s.2.j ≤ m)) && ((s.1.i == 0 && s.2.i == 0) || (s.1.j == 0 && s.2.j == 0) || own m (rev s) == some (byond m s))
def outOk (m i : Nat) : Bool :=
  let s : Sd := (⟨i + 1, m - i - 1⟩, ⟨i, m - i⟩)
  own m (rev s) == some (m * m + i) && (match own m s with
    | some w => decide (w < m * m) && ((rooms m).findIdx? fun r => (sides r).contains s) == some w && ((sides ((rooms m).getD w ⟨0, 0, true⟩)).contains s) && byond m s == m * m + i
    | none => false)
def geoOk (m : Nat) : Bool := ((rooms m).length == m * m) && ((List.range (m * m)).all fun v => (sides ((rooms m).getD v ⟨0, 0, true⟩)).all (sideOk m v)) && ((List.range m).all (outOk m))
theorem geo1 : ∀ m, m < 7 → geoOk m = true := by decide +kernel
theorem geo7 : geoOk 7 = true := by decide +kernel
theorem geo8 : geoOk 8 = true := by decide +kernel
theorem geo9 : geoOk 9 = true := by decide +kernel
theorem geo {m : Nat} (h : m ≤ 9) : geoOk m = true := by
  by_cases h7 : m < 7
  · exact geo1 m h7
  · obtain rfl | rfl | rfl : m = 7 ∨ m = 8 ∨ m = 9 := by omega
    · exact geo7
    · exact geo8
    · exact geo9
end
section
section
open Kzs1 (Lines next before onward begins)
theorem nodup_le : ∀ {l l' : List Nat}, l.Nodup → (∀ x ∈ l, x ∈ l') → l.length ≤ l'.length
  | [], _, _, _ => Nat.zero_le _
  | x :: l, l', hn, hs => by
    have hx := hs x List.mem_cons_self
    have hn' := List.nodup_cons.mp hn
    have ih := nodup_le (l := l) (l' := l'.erase x) hn'.2 (fun y hy => (List.mem_erase_of_ne (by rintro rfl; exact hn'.1 hy)).mpr (hs y (List.mem_cons_of_mem _ hy)))
    rw [List.length_erase_of_mem hx] at ih
    have : 0 < l'.length := List.length_pos_of_mem hx
    rw [List.length_cons]
    omega
variable {g : Lines}
theorem next_bf {v w : Nat} (h : next g v = some w) : g.nx.getD v 0 = w + 1 ∧ g.bf.getD w 0 = v + 1 := by
  unfold next at h
  by_cases h0 : g.nx.getD v 0 = 0
  · simp only [h0, if_true] at h
    cases h
  · by_cases h1 : g.bf.getD (g.nx.getD v 0 - 1) 0 = v + 1
    · simp only [h0, h1, if_true, if_false, Option.some.injEq] at h
      subst h
      exact ⟨by omega, h1⟩
    · simp only [h0, h1, if_false] at h
      cases h
theorem next_mk {v w : Nat} (h1 : g.nx.getD v 0 = w + 1) (h2 : g.bf.getD w 0 = v + 1) : next g v = some w := by
  unfold next
  simp only [h1]
  rw [if_neg (by omega), Nat.add_sub_cancel, if_pos h2]
theorem next_none {v : Nat} (h1 : g.nx.getD v 0 = 0) : next g v = none := by
  unfold next
  simp only [h1]
  rw [if_pos trivial]
theorem before_none {v : Nat} (h1 : g.bf.getD v 0 = 0) : before g v = none := by
  unfold before
  simp only [h1]
  rw [if_pos trivial]
theorem next_inj {a b w : Nat} (h1 : next g a = some w) (h2 : next g b = some w) : a = b := by
  have := (next_bf h1).2
  have := (next_bf h2).2
  omega
/-- one after another by next -/
def Chn (g : Lines) (l : List Nat) : Prop := ∀ i, i + 1 < l.length → next g (l.getD i 0) = some (l.getD (i + 1) 0)
theorem on_ne : ∀ k v, 0 < (onward g k v).length
  | 0, v => by unfold onward; simp
  | k + 1, v => by unfold onward; split <;> simp
theorem on_zero : ∀ k v, (onward g k v).getD 0 0 = v
  | 0, v => by unfold onward; rfl
  | k + 1, v => by unfold onward; split <;> rfl
theorem on_chain : ∀ k v, Chn g (onward g k v)
  | 0, v => by
    intro i hi
    unfold onward at hi
    simp at hi
  | k + 1, v => by
    intro i hi
    cases e : next g v with
    | none =>
      unfold onward at hi
      rw [e] at hi
      simp at hi
    | some w =>
      have e2 : onward g (k + 1) v = v :: onward g k w := by
        show (match next g v with
          | some w => v :: onward g k w
          | none => [v]) = _
        rw [e]
      rw [e2] at hi ⊢
      cases i with
      | zero =>
        show next g v = some ((onward g k w).getD 0 0)
        rw [on_zero, e]
      | succ i =>
        show next g ((onward g k w).getD i 0) = some ((onward g k w).getD (i + 1) 0)
        refine on_chain k w i ?_
        rw [List.length_cons] at hi
        omega
theorem on_end : ∀ k v, next g ((onward g k v).getD ((onward g k v).length - 1) 0) = none ∨ (onward g k v).length = k + 1
  | 0, v => .inr (by unfold onward; rfl)
  | k + 1, v => by
    cases e : next g v with
    | none =>
      have e2 : onward g (k + 1) v = [v] := by
        show (match next g v with
          | some w => v :: onward g k w
          | none => [v]) = _
        rw [e]
      rw [e2]
      exact .inl e
    | some w =>
      have e2 : onward g (k + 1) v = v :: onward g k w := by
        show (match next g v with
          | some w => v :: onward g k w
          | none => [v]) = _
        rw [e]
      rw [e2]
      have hp := on_ne (g := g) k w
      rcases on_end k w with h | h
      · left
        rw [List.length_cons, Nat.add_sub_cancel]
        have : (v :: onward g k w).getD (onward g k w).length 0 = (onward g k w).getD ((onward g k w).length - 1) 0 := by
          obtain ⟨n, hn⟩ : ∃ n, (onward g k w).length = n + 1 := ⟨(onward g k w).length - 1, by omega⟩
          rw [hn]
          rfl
        rw [this]
        exact h
      · right
        rw [List.length_cons, h]
theorem ch_ne {l : List Nat} (hc : Chn g l) (h0 : ∀ a, next g a ≠ some (l.getD 0 0)) : ∀ i j, i < j → j < l.length → l.getD i 0 ≠ l.getD j 0
  | 0, j, hij, hj => by
    intro e
    obtain ⟨k, rfl⟩ : ∃ k, j = k + 1 := ⟨j - 1, by omega⟩
    have := hc k hj
    rw [← e] at this
    exact h0 _ this
  | i + 1, j, hij, hj => by
    intro e
    obtain ⟨k, rfl⟩ : ∃ k, j = k + 1 := ⟨j - 1, by omega⟩
    have h1 := hc i (by omega)
    have h2 := hc k hj
    rw [e] at h1
    exact ch_ne hc h0 i k (by omega) (by omega) (next_inj h1 h2)
theorem getD_at {l : List Nat} {i : Nat} (h : i < l.length) : l.getD i 0 = l[i] := by
  rw [List.getD_eq_getElem?_getD, List.getElem?_eq_getElem h]
  rfl
theorem ch_nodup {l : List Nat} (hc : Chn g l) (h0 : ∀ a, next g a ≠ some (l.getD 0 0)) : l.Nodup := by
  refine List.pairwise_iff_getElem.mpr fun i j hi hj hij e => ?_
  refine ch_ne hc h0 i j hij hj ?_
  rw [getD_at hi, getD_at hj]
  exact e
theorem ch_in {N : Nat} {l : List Nat} (hN : ∀ a b, next g a = some b → b < N) (hc : Chn g l) (h0 : l.getD 0 0 < N) : ∀ i, i < l.length → l.getD i 0 < N
  | 0, _ => h0
  | i + 1, hi => hN _ _ (hc i hi)
/-- the line's end -/
def endOf (g : Lines) (N v : Nat) : Nat := (onward g N v).getD ((onward g N v).length - 1) 0
theorem on_stops {N v : Nat} (hN : ∀ a b, next g a = some b → b < N) (hv : v < N) (h0 : ∀ a, next g a ≠ some v) : next g (endOf g N v) = none := by
  rcases on_end (g := g) N v with h | h
  · exact h
  · exfalso
    have hc := on_chain (g := g) N v
    have nd := ch_nodup hc (by rw [on_zero]; exact h0)
    have hi := ch_in hN hc (by rw [on_zero]; exact hv)
    have := nodup_le (l' := List.range N) nd (fun x hx => by
      obtain ⟨i, hi', e⟩ := List.getElem_of_mem hx
      rw [List.mem_range, ← e, ← getD_at hi']
      exact hi i hi')
    rw [h, List.length_range] at this
    omega
theorem ch_back {la lb : List Nat} {a b : Nat} (ha : Chn g la) (hb : Chn g lb) (la' : a < la.length) (lb' : b < lb.length) (e : la.getD a 0 = lb.getD b 0) : ∀ k, k ≤ a → k ≤ b → la.getD (a - k) 0 = lb.getD (b - k) 0
  | 0, _, _ => e
  | k + 1, h1, h2 => by
    have ih := ch_back ha hb la' lb' e k (by omega) (by omega)
    have x1 := ha (a - (k + 1)) (by omega)
    have x2 := hb (b - (k + 1)) (by omega)
    rw [show a - (k + 1) + 1 = a - k by omega, ih] at x1
    rw [show b - (k + 1) + 1 = b - k by omega] at x2
    exact next_inj x1 x2
theorem end_inj {N u v : Nat} (hu : ∀ a, next g a ≠ some u) (hv : ∀ a, next g a ≠ some v) (e : endOf g N u = endOf g N v) : u = v := by
  have cu := on_chain (g := g) N u
  have cv := on_chain (g := g) N v
  have pu := on_ne (g := g) N u
  have pv := on_ne (g := g) N v
  have key := ch_back cu cv (a := (onward g N u).length - 1) (b := (onward g N v).length - 1) (by omega) (by omega) e
  by_cases h : (onward g N u).length - 1 ≤ (onward g N v).length - 1
  · have k := key _ (Nat.le_refl _) h
    rw [Nat.sub_self, on_zero] at k
    by_cases h2 : (onward g N u).length - 1 = (onward g N v).length - 1
    · rw [h2, Nat.sub_self, on_zero] at k
      exact k
    · exfalso
      have x := cv ((onward g N v).length - 1 - ((onward g N u).length - 1) - 1) (by omega)
      rw [show (onward g N v).length - 1 - ((onward g N u).length - 1) - 1 + 1 = (onward g N v).length - 1 - ((onward g N u).length - 1) by omega, ← k] at x
      exact hu _ x
  · have k := key ((onward g N v).length - 1) (by omega) (Nat.le_refl _)
    rw [Nat.sub_self, on_zero] at k
    exfalso
    have x := cu ((onward g N u).length - 1 - ((onward g N v).length - 1) - 1) (by omega)
    rw [show (onward g N u).length - 1 - ((onward g N v).length - 1) - 1 + 1 = (onward g N u).length - 1 - ((onward g N v).length - 1) by omega, k] at x
    exact hv _ x
theorem end_pre {N u : Nat} (hu : next g u ≠ none) (hN : 0 < N) (hs : next g (endOf g N u) = none) : ∃ a, next g a = some (endOf g N u) := by
  have cu := on_chain (g := g) N u
  have pu := on_ne (g := g) N u
  by_cases h : (onward g N u).length = 1
  · exfalso
    unfold endOf at hs
    rw [h, Nat.sub_self, on_zero] at hs
    exact hu hs
  · have x := cu ((onward g N u).length - 1 - 1) (by omega)
    rw [show (onward g N u).length - 1 - 1 + 1 = (onward g N u).length - 1 by omega] at x
    exact ⟨_, x⟩
/-- of more beginnings than places where lines end outside one leads to a room -/
theorem exists_room {N n : Nat} {S T : List Nat} (hN : ∀ a b, next g a = some b → b < N) (nd : S.Nodup) (hS : ∀ u ∈ S, u < N ∧ next g u ≠ none ∧ ∀ a, next g a ≠ some u)
    (hT : ∀ a e, next g a = some e → n ≤ e → e ∈ T) (hl : T.length < S.length) : ∃ u ∈ S, endOf g N u < n := by
  refine Classical.byContradiction fun hno => ?_
  have hno : ∀ u ∈ S, n ≤ endOf g N u := fun u hu => Nat.le_of_not_lt fun z => hno ⟨u, hu, z⟩
  have := nodup_le (l := S.map (endOf g N)) (l' := T) (by
    refine List.pairwise_map.mpr (List.Pairwise.imp_of_mem (fun {a b} ha hb hab e => hab (end_inj (hS a ha).2.2 (hS b hb).2.2 e)) nd)) (fun x hx => by
    obtain ⟨u, hu, rfl⟩ := List.mem_map.mp hx
    obtain ⟨h1, h2, h3⟩ := hS u hu
    obtain ⟨a, ha⟩ := end_pre h2 (Nat.zero_lt_of_lt h1) (on_stops hN h1 h3)
    exact hT a _ ha (hno u hu))
  rw [List.length_map] at this
  omega
/-- ups and downs of a row of 0 and 1 -/
def downs (col : Nat → Nat) (k : Nat) : List Nat := (List.range k).filter fun i => col i == 1 && col (i + 1) == 0
def ups (col : Nat → Nat) (k : Nat) : List Nat := (List.range k).filter fun i => col (i + 1) == 1 && col i == 0
theorem ups_downs {col : Nat → Nat} {m : Nat} (h01 : ∀ i, i ≤ m → col i = 0 ∨ col i = 1) : ∀ k, k ≤ m → (downs col k).length + col k = (ups col k).length + col 0
  | 0, _ => rfl
  | k + 1, hk => by
    have ih := ups_downs h01 k (by omega)
    unfold downs ups at ih ⊢
    rw [List.range_succ, List.filter_append, List.filter_append, List.length_append, List.length_append]
    rcases h01 k (by omega) with a | a <;> rcases h01 (k + 1) hk with b | b <;> simp [a, b] at ih ⊢ <;> omega
end
end
section
section
open Kzs2 (places number noOf Room corners rooms sides beyond outer colour wayIn wayOut toLines)
open Kzs1 (Lines next before onward begins)
/-- every place has a colour whose number there isn't 0 -/
structure FairC (m : Nat) (c : List Nat) : Prop where
  two : ∀ p : Pl, p.i + p.j ≤ m → colour m c p ≤ 2
  num : ∀ p : Pl, p.i + p.j ≤ m → number m p (colour m c p) ≠ 0
def dOut (m : Nat) (c : List Nat) (s : Sd) : Bool := colour m c s.1 == 1 && colour m c s.2 == 0
def dIn (m : Nat) (c : List Nat) (s : Sd) : Bool := colour m c s.1 == 0 && colour m c s.2 == 1
theorem dOut_iff {m : Nat} {c : List Nat} {s : Sd} : dOut m c s = true ↔ colour m c s.1 = 1 ∧ colour m c s.2 = 0 := by
  unfold dOut
  rw [Bool.and_eq_true, beq_iff_eq, beq_iff_eq]
theorem dIn_iff {m : Nat} {c : List Nat} {s : Sd} : dIn m c s = true ↔ colour m c s.1 = 0 ∧ colour m c s.2 = 1 := by
  unfold dIn
  rw [Bool.and_eq_true, beq_iff_eq, beq_iff_eq]
/-- what's next after a point, as the program finds it -/
def nxt (m : Nat) (c : List Nat) (v : Nat) : Option Nat := match ((pts m).getD v []).find? (dOut m c) with
  | none => none
  | some s => own m (rev s)
abbrev rm (m v : Nat) : Room := (rooms m).getD v ⟨0, 0, true⟩
abbrev so (m i : Nat) : Sd := (⟨i + 1, m - i - 1⟩, ⟨i, m - i⟩)
theorem rooms_len {m : Nat} (h : m ≤ 9) : (rooms m).length = m * m := by
  have := geo h
  unfold geoOk at this
  rw [Bool.and_eq_true, Bool.and_eq_true, beq_iff_eq] at this
  exact this.1.1
theorem side_ok {m v : Nat} {s : Sd} (h : m ≤ 9) (hv : v < m * m) (hs : s ∈ sides (rm m v)) : sideOk m v s = true := by
  have := geo h
  unfold geoOk at this
  rw [Bool.and_eq_true, Bool.and_eq_true] at this
  exact List.all_eq_true.mp (List.all_eq_true.mp this.1.2 v (List.mem_range.mpr hv)) s hs
theorem out_ok {m i : Nat} (h : m ≤ 9) (hi : i < m) : outOk m i = true := by
  have := geo h
  unfold geoOk at this
  rw [Bool.and_eq_true, Bool.and_eq_true] at this
  exact List.all_eq_true.mp this.2 i (List.mem_range.mpr hi)
theorem side_own {m v : Nat} {s : Sd} (h : m ≤ 9) (hv : v < m * m) (hs : s ∈ sides (rm m v)) : own m s = some v ∧ s.1.i + s.1.j ≤ m ∧ s.2.i + s.2.j ≤ m := by
  have := side_ok h hv hs
  unfold sideOk at this
  simp only [Bool.and_eq_true, beq_iff_eq, decide_eq_true_eq] at this
  exact ⟨this.1.1, this.1.2.1, this.1.2.2⟩
theorem side_rev {m v : Nat} {c : List Nat} {s : Sd} (F : FairC m c) (h : m ≤ 9) (hv : v < m * m) (hs : s ∈ sides (rm m v)) (hd : dOut m c s = true ∨ dIn m c s = true) : own m (rev s) = some (byond m s) := by
  have := side_ok h hv hs
  unfold sideOk at this
  simp only [Bool.and_eq_true, Bool.or_eq_true, beq_iff_eq, decide_eq_true_eq] at this
  obtain ⟨⟨_, p1, p2⟩, q⟩ := this
  rcases q with (⟨a, b⟩ | ⟨a, b⟩) | q
  · exfalso
    have n1 := F.num s.1 p1
    have n2 := F.num s.2 p2
    rcases hd with hd | hd
    · have := dOut_iff.mp hd
      rw [this.2] at n2
      exact n2 b
    · have := dIn_iff.mp hd
      rw [this.1] at n1
      exact n1 a
  · exfalso
    have n1 := F.num s.1 p1
    have n2 := F.num s.2 p2
    rcases hd with hd | hd
    · have := dOut_iff.mp hd
      rw [this.1] at n1
      exact n1 a
    · have := dIn_iff.mp hd
      rw [this.2] at n2
      exact n2 b
  · exact q
theorem outer_facts {m i : Nat} (h : m ≤ 9) (hi : i < m) : own m (rev (so m i)) = some (m * m + i) ∧ ∃ w, own m (so m i) = some w ∧ w < m * m ∧ ((rooms m).findIdx? fun r => (sides r).contains (so m i)) = some w ∧ so m i ∈ sides (rm m w) ∧ byond m (so m i) = m * m + i := by
  have := out_ok h hi
  unfold outOk at this
  rw [Bool.and_eq_true, beq_iff_eq] at this
  refine ⟨this.1, ?_⟩
  have t := this.2
  cases e : own m (so m i) with
  | none =>
    rw [e] at t
    exact absurd t (by simp)
  | some w =>
    rw [e] at t
    simp only [Bool.and_eq_true, beq_iff_eq, decide_eq_true_eq] at t
    exact ⟨w, rfl, t.1.1.1, t.1.1.2, by simpa using t.1.2, t.2⟩
theorem pts_room {m v : Nat} (h : m ≤ 9) (hv : v < m * m) : (pts m).getD v [] = sides (rm m v) := by
  unfold pts
  have hl := rooms_len h
  rw [List.getD_eq_getElem?_getD, List.getElem?_append_left (by rw [List.length_map, hl]; exact hv), List.getElem?_map, List.getElem?_eq_getElem (by rw [hl]; exact hv)]
  show sides _ = sides ((rooms m).getD v _)
  rw [List.getD_eq_getElem?_getD, List.getElem?_eq_getElem (by rw [hl]; exact hv)]
  rfl
theorem pts_outer {m i : Nat} (h : m ≤ 9) (hi : i < m) : (pts m).getD (m * m + i) [] = [rev (so m i)] := by
  unfold pts
  have hl := rooms_len h
  rw [List.getD_eq_getElem?_getD, List.getElem?_append_right (by rw [List.length_map, hl]; omega), List.length_map, hl, Nat.add_sub_cancel_left, List.getElem?_map, List.getElem?_range hi]
  rfl
theorem pts_len {m : Nat} (h : m ≤ 9) : (pts m).length = m * m + m := by
  unfold pts
  rw [List.length_append, List.length_map, List.length_map, List.length_range, rooms_len h]
theorem own_mem {m w : Nat} {s : Sd} (e : own m s = some w) : w < (pts m).length ∧ s ∈ (pts m).getD w [] := by
  unfold own at e
  obtain ⟨hw, h1, _⟩ := List.findIdx?_eq_some_iff_getElem.mp e
  refine ⟨hw, ?_⟩
  rw [List.getD_eq_getElem?_getD, List.getElem?_eq_getElem hw]
  simpa using h1
theorem sides_three (r : Room) : ∃ a b d : Pl, sides r = [(a, b), (b, d), (d, a)] := by
  unfold sides corners
  by_cases h : r.u = true
  · rw [if_pos h]
    exact ⟨_, _, _, rfl⟩
  · rw [if_neg h]
    exact ⟨_, _, _, rfl⟩
theorem in_unique {m : Nat} {c : List Nat} {r : Room} {s : Sd} (hs : s ∈ sides r) (hd : dIn m c s = true) : wayIn m c r = some s := by
  show (sides r).find? (dIn m c) = some s
  obtain ⟨a, b, d, e⟩ := sides_three r
  rw [e] at hs ⊢
  simp only [List.mem_cons, List.not_mem_nil, or_false] at hs
  have key := dIn_iff.mp hd
  rcases hs with rfl | rfl | rfl
  · rw [List.find?_cons_of_pos hd]
  · rw [List.find?_cons_of_neg (by rw [dIn_iff]; have := key.1; simp only at *; omega), List.find?_cons_of_pos hd]
  · rw [List.find?_cons_of_neg (by rw [dIn_iff]; simp only at *; omega), List.find?_cons_of_neg (by rw [dIn_iff]; simp only at *; omega), List.find?_cons_of_pos hd]
/-! ### the lists of toLines -/
section
variable {m : Nat} {c : List Nat}
theorem nx_room {v : Nat} (h : m ≤ 9) (hv : v < m * m) : (toLines m c).nx.getD v 0 = match wayOut m c (rm m v) with
    | none => 0
    | some s => byond m s + 1 := by
  have hl := rooms_len h
  unfold toLines
  dsimp only
  rw [List.getD_eq_getElem?_getD, List.getElem?_append_left (by rw [List.length_map, hl]; exact hv), List.getElem?_map, List.getElem?_eq_getElem (by rw [hl]; exact hv)]
  have e : rm m v = (rooms m)[v]'(by rw [hl]; exact hv) := by
    show (rooms m).getD v _ = _
    rw [List.getD_eq_getElem?_getD, List.getElem?_eq_getElem (by rw [hl]; exact hv)]
    rfl
  rw [e, Option.map_some, Option.getD_some]
  cases wayOut m c _ with
  | none => rfl
  | some s => rfl
theorem bf_room {v : Nat} (h : m ≤ 9) (hv : v < m * m) : (toLines m c).bf.getD v 0 = match wayIn m c (rm m v) with
    | none => 0
    | some s => byond m s + 1 := by
  have hl := rooms_len h
  unfold toLines
  dsimp only
  rw [List.getD_eq_getElem?_getD, List.getElem?_append_left (by rw [List.length_map, hl]; exact hv), List.getElem?_map, List.getElem?_eq_getElem (by rw [hl]; exact hv)]
  have e : rm m v = (rooms m)[v]'(by rw [hl]; exact hv) := by
    show (rooms m).getD v _ = _
    rw [List.getD_eq_getElem?_getD, List.getElem?_eq_getElem (by rw [hl]; exact hv)]
    rfl
  rw [e, Option.map_some, Option.getD_some]
  cases wayIn m c _ with
  | none => rfl
  | some s => rfl
theorem nx_outer {i : Nat} (h : m ≤ 9) (hi : i < m) : (toLines m c).nx.getD (m * m + i) 0 = if colour m c (so m i).1 = 0 ∧ colour m c (so m i).2 = 1 then ((rooms m).findIdx? fun r => (sides r).contains (so m i)).getD (m * m) + 1 else 0 := by
  have hl := rooms_len h
  unfold toLines
  dsimp only
  rw [List.getD_eq_getElem?_getD, List.getElem?_append_right (by rw [List.length_map, hl]; omega), List.length_map, hl, Nat.add_sub_cancel_left, List.getElem?_map, List.getElem?_range hi]
  rfl
theorem bf_outer {i : Nat} (h : m ≤ 9) (hi : i < m) : (toLines m c).bf.getD (m * m + i) 0 = if colour m c (so m i).1 = 1 ∧ colour m c (so m i).2 = 0 then ((rooms m).findIdx? fun r => (sides r).contains (so m i)).getD (m * m) + 1 else 0 := by
  have hl := rooms_len h
  unfold toLines
  dsimp only
  rw [List.getD_eq_getElem?_getD, List.getElem?_append_right (by rw [List.length_map, hl]; omega), List.length_map, hl, Nat.add_sub_cancel_left, List.getElem?_map, List.getElem?_range hi]
  rfl
theorem size_lines (h : m ≤ 9) : Kzs1.size (toLines m c) = m * m + m := by
  unfold Kzs1.size toLines
  dsimp only
  rw [List.length_append, List.length_map, List.length_map, List.length_range, rooms_len h]
theorem nx_far {v : Nat} (h : m ≤ 9) (hv : m * m + m ≤ v) : (toLines m c).nx.getD v 0 = 0 := by
  rw [List.getD_eq_getElem?_getD, List.getElem?_eq_none]
  · rfl
  · have := size_lines (c := c) h
    unfold Kzs1.size at this
    omega
/-! ### next, as the program finds it -/
theorem next_nxt (F : FairC m c) (h : m ≤ 9) {v : Nat} (hv : v < m * m + m) : next (toLines m c) v = nxt m c v := by
  by_cases hr : v < m * m
  · unfold nxt
    rw [pts_room h hr]
    have nx := nx_room (c := c) h hr
    have ew : wayOut m c (rm m v) = (sides (rm m v)).find? (dOut m c) := rfl
    rw [← ew]
    cases e : wayOut m c (rm m v) with
    | none =>
      rw [e] at nx
      exact next_none nx
    | some s =>
      rw [e] at nx
      have hs : s ∈ sides (rm m v) := List.mem_of_find?_eq_some e
      have ho : dOut m c s = true := List.find?_some (p := dOut m c) e
      have e2 := side_rev F h hr hs (.inl ho)
      show _ = own m (rev s)
      rw [e2]
      obtain ⟨hw, hm⟩ := own_mem e2
      rw [pts_len h] at hw
      refine next_mk nx ?_
      by_cases hw2 : byond m s < m * m
      · rw [pts_room h hw2] at hm
        have hi : dIn m c (rev s) = true := dIn_iff.mpr (let q := dOut_iff.mp ho; ⟨q.2, q.1⟩)
        rw [bf_room h hw2, in_unique hm hi]
        have e3 := side_rev F h hw2 hm (.inr hi)
        have e4 : own m (rev (rev s)) = some v := (side_own h hr hs).1
        rw [e4] at e3
        have := Option.some.inj e3
        show byond m (rev s) + 1 = v + 1
        omega
      · obtain ⟨i, hi⟩ : ∃ i, byond m s = m * m + i := ⟨byond m s - m * m, by omega⟩
        have hi' : i < m := by omega
        rw [hi, pts_outer h hi'] at hm
        have es : s = so m i := by
          have : rev s = rev (so m i) := by simpa using hm
          have e5 := congrArg rev this
          exact e5
        rw [hi, bf_outer h hi']
        obtain ⟨_, w, w1, w2, w3, _, _⟩ := outer_facts h hi'
        have q := dOut_iff.mp ho
        rw [es] at q
        rw [if_pos q, w3]
        have e6 := (side_own h hr hs).1
        rw [es, w1] at e6
        have := Option.some.inj e6
        show w + 1 = v + 1
        omega
  · obtain ⟨i, rfl⟩ : ∃ i, v = m * m + i := ⟨v - m * m, by omega⟩
    have hi : i < m := by omega
    unfold nxt
    rw [pts_outer h hi]
    have nx := nx_outer (c := c) h hi
    obtain ⟨_, w, w1, w2, w3, w4, w5⟩ := outer_facts h hi
    by_cases hd : dOut m c (rev (so m i)) = true
    · rw [List.find?_cons_of_pos hd]
      have q := dOut_iff.mp hd
      rw [if_pos ⟨q.2, q.1⟩, w3] at nx
      show _ = own m (so m i)
      rw [w1]
      refine next_mk nx ?_
      have hin : dIn m c (so m i) = true := dIn_iff.mpr ⟨q.2, q.1⟩
      rw [bf_room h w2, in_unique w4 hin]
      show byond m (so m i) + 1 = _
      rw [w5]
    · rw [List.find?_cons_of_neg hd, List.find?_nil]
      rw [if_neg (fun z => hd (dOut_iff.mpr ⟨z.2, z.1⟩))] at nx
      exact next_none nx
theorem out_own (F : FairC m c) (h : m ≤ 9) {v : Nat} (hv : v < m * m + m) {s : Sd} (hs : s ∈ (pts m).getD v []) (hd : dOut m c s = true) : ∃ w, own m (rev s) = some w ∧ w < m * m + m := by
  by_cases hr : v < m * m
  · rw [pts_room h hr] at hs
    have e := side_rev F h hr hs (.inl hd)
    refine ⟨_, e, ?_⟩
    have := (own_mem e).1
    rwa [pts_len h] at this
  · obtain ⟨i, rfl⟩ : ∃ i, v = m * m + i := ⟨v - m * m, by omega⟩
    have hi : i < m := by omega
    rw [pts_outer h hi] at hs
    have es : s = rev (so m i) := by simpa using hs
    subst es
    obtain ⟨_, w, w1, w2, _⟩ := outer_facts h hi
    exact ⟨w, w1, by omega⟩
theorem next_lt (F : FairC m c) (h : m ≤ 9) : ∀ a b, next (toLines m c) a = some b → b < m * m + m := by
  intro a b e
  by_cases ha : a < m * m + m
  · rw [next_nxt F h ha] at e
    unfold nxt at e
    cases e2 : ((pts m).getD a []).find? (dOut m c) with
    | none =>
      rw [e2] at e
      cases e
    | some s =>
      rw [e2] at e
      have e : own m (rev s) = some b := e
      have := (own_mem e).1
      rwa [pts_len h] at this
  · rw [next_none (nx_far h (by omega))] at e
    cases e
/-! ### the outer row -/
def rowC (m : Nat) (c : List Nat) (i : Nat) : Nat := colour m c ⟨i, m - i⟩
theorem row01 (F : FairC m c) {i : Nat} (hi : i ≤ m) : rowC m c i = 0 ∨ rowC m c i = 1 := by
  have h2 := F.two ⟨i, m - i⟩ (by show i + (m - i) ≤ m; omega)
  have h3 := F.num ⟨i, m - i⟩ (by show i + (m - i) ≤ m; omega)
  unfold rowC
  by_cases e : colour m c ⟨i, m - i⟩ = 2
  · exfalso
    rw [e] at h3
    refine h3 ?_
    show m - i - (m - i) = 0
    omega
  · omega
theorem row_first (F : FairC m c) : rowC m c 0 = 1 := by
  rcases row01 F (Nat.zero_le m) with e | e
  · exfalso
    have h3 := F.num ⟨0, m - 0⟩ (by show 0 + (m - 0) ≤ m; omega)
    have e : colour m c ⟨0, m - 0⟩ = 0 := e
    rw [e] at h3
    exact h3 rfl
  · exact e
theorem row_last (F : FairC m c) : rowC m c m = 0 := by
  rcases row01 F (Nat.le_refl m) with e | e
  · exact e
  · exfalso
    have h3 := F.num ⟨m, m - m⟩ (by show m + (m - m) ≤ m; omega)
    have e : colour m c ⟨m, m - m⟩ = 1 := e
    rw [e] at h3
    refine h3 ?_
    show m - m = 0
    omega
theorem mem_downs {i : Nat} : i ∈ downs (rowC m c) m ↔ i < m ∧ dOut m c (rev (so m i)) = true := by
  unfold downs
  rw [List.mem_filter, List.mem_range]
  exact Iff.rfl
theorem mem_ups {i : Nat} : i ∈ ups (rowC m c) m ↔ i < m ∧ dOut m c (so m i) = true := by
  unfold ups
  rw [List.mem_filter, List.mem_range]
  exact Iff.rfl
theorem nxt_outer (h : m ≤ 9) {i : Nat} (hi : i < m) : (nxt m c (m * m + i)).isSome = dOut m c (rev (so m i)) := by
  unfold nxt
  rw [pts_outer h hi]
  obtain ⟨_, w, w1, _⟩ := outer_facts h hi
  by_cases hd : dOut m c (rev (so m i)) = true
  · rw [List.find?_cons_of_pos hd, hd]
    show (own m (so m i)).isSome = true
    rw [w1]
    rfl
  · rw [List.find?_cons_of_neg hd, List.find?_nil]
    cases e : dOut m c (rev (so m i)) with
    | true => exact absurd e hd
    | false => rfl
theorem begins_outer (F : FairC m c) (h : m ≤ 9) {i : Nat} (hi : i < m) : begins (toLines m c) (m * m + i) = (nxt m c (m * m + i)).isSome := by
  unfold Kzs1.begins
  rw [next_nxt F h (by omega)]
  cases e : (nxt m c (m * m + i)).isSome with
  | false => rfl
  | true =>
    rw [nxt_outer h hi] at e
    have q := dOut_iff.mp e
    rw [before_none (g := toLines m c)]
    · rfl
    · rw [bf_outer h hi, if_neg]
      intro z
      have q1 : colour m c (so m i).2 = 1 := q.1
      omega
theorem no_pre (h : m ≤ 9) {i : Nat} (hi : i < m) (hd : dOut m c (rev (so m i)) = true) : ∀ a, next (toLines m c) a ≠ some (m * m + i) := by
  intro a e
  have := (next_bf e).2
  have q := dOut_iff.mp hd
  rw [bf_outer h hi, if_neg] at this
  · omega
  · intro z
    have q1 : colour m c (so m i).2 = 1 := q.1
    omega
theorem some_room (F : FairC m c) (h : m ≤ 9) (h1 : 1 ≤ m) : ∃ i, i < m ∧ (nxt m c (m * m + i)).isSome = true ∧ endOf (toLines m c) (m * m + m) (m * m + i) < m * m := by
  have key := ups_downs (col := rowC m c) (m := m) (fun i hi => row01 F hi) m (Nat.le_refl _)
  rw [row_first F, row_last F] at key
  obtain ⟨u, hu, hlt⟩ := exists_room (g := toLines m c) (N := m * m + m) (n := m * m) (S := (downs (rowC m c) m).map (m * m + ·)) (T := (ups (rowC m c) m).map (m * m + ·)) (next_lt F h)
    (List.pairwise_map.mpr (List.Pairwise.imp (fun {a b} hab e => hab (by omega)) (List.Pairwise.filter _ List.nodup_range)))
    (fun u hu => by
      obtain ⟨i, hi, rfl⟩ := List.mem_map.mp hu
      obtain ⟨hi, hd⟩ := mem_downs.mp hi
      refine ⟨by omega, ?_, no_pre h hi hd⟩
      rw [next_nxt F h (by omega)]
      intro z
      have := nxt_outer (c := c) h hi
      rw [z, hd] at this
      cases this)
    (fun a e hn hle => by
      have hlt := next_lt F h a e hn
      refine List.mem_map.mpr ⟨e - m * m, mem_ups.mpr ⟨by omega, ?_⟩, by show m * m + (e - m * m) = e; omega⟩
      have b := (next_bf hn).2
      rw [show e = m * m + (e - m * m) by omega, bf_outer h (by omega)] at b
      by_cases z : colour m c (so m (e - m * m)).1 = 1 ∧ colour m c (so m (e - m * m)).2 = 0
      · exact dOut_iff.mpr z
      · rw [if_neg z] at b
        omega)
    (by rw [List.length_map, List.length_map]; omega)
  obtain ⟨i, hi, rfl⟩ := List.mem_map.mp hu
  obtain ⟨hi, hd⟩ := mem_downs.mp hi
  exact ⟨i, hi, by rw [nxt_outer h hi]; exact hd, hlt⟩
/-! ### the first room -/
def begun (m : Nat) (c : List Nat) : List Nat := ((List.range m).map (m * m + ·)).filter fun v => (nxt m c v).isSome
def lineEnd (m : Nat) (c : List Nat) (v : Nat) : Nat := endOf (toLines m c) (m * m + m) v
def inRooms (m : Nat) (c : List Nat) : List Nat := ((begun m c).map (lineEnd m c)).filter fun v => decide (v < m * m)
theorem getLastD_end {l : List Nat} {v : Nat} (h : 0 < l.length) : l.getLastD v = l.getD (l.length - 1) 0 := by
  rw [List.getLastD_eq_getLast?, List.getLast?_eq_getElem?, List.getD_eq_getElem?_getD, List.getElem?_eq_getElem (by omega)]
  rfl
theorem other_end (F : FairC m c) (h : m ≤ 9) {i : Nat} (hi : i < m) (hb : (nxt m c (m * m + i)).isSome = true) : Kzs1.other (toLines m c) (m * m + i) = lineEnd m c (m * m + i) := by
  unfold Kzs1.other Kzs1.line
  rw [begins_outer F h hi, hb, if_pos rfl, size_lines h]
  exact getLastD_end (on_ne _ _)
theorem first_eq (F : FairC m c) (h : m ≤ 9) : Kzs2.first m c = (inRooms m c).head? := by
  have hl := rooms_len h
  have go : ∀ l : List Nat, (∀ i ∈ l, i < m) → (l.filterMap fun i => if begins (toLines m c) (m * m + i) then some (Kzs1.other (toLines m c) (m * m + i)) else none) = ((l.map (m * m + ·)).filter fun v => (nxt m c v).isSome).map (lineEnd m c) := by
    intro l
    induction l with
    | nil => intro _; rfl
    | cons i l ih =>
      intro hl
      have hi := hl i List.mem_cons_self
      have ih := ih fun j hj => hl j (List.mem_cons_of_mem _ hj)
      rw [List.map_cons]
      cases e : (nxt m c (m * m + i)).isSome with
      | true =>
        rw [List.filter_cons_of_pos (p := fun v => (nxt m c v).isSome) e, List.map_cons, ← ih, List.filterMap_cons_some (b := lineEnd m c (m * m + i))]
        rw [begins_outer F h hi, e, if_pos rfl, other_end F h hi e]
      | false =>
        rw [List.filter_cons_of_neg (p := fun v => (nxt m c v).isSome) (by rw [e]; exact Bool.false_ne_true), ← ih, List.filterMap_cons_none]
        rw [begins_outer F h hi, e, if_neg Bool.false_ne_true]
  unfold Kzs2.first
  dsimp only
  rw [hl, go _ (fun i hi => List.mem_range.mp hi)]
  unfold inRooms begun
  rw [List.head?_filter]
theorem first_some (F : FairC m c) (h : m ≤ 9) (h1 : 1 ≤ m) : ∃ k, Kzs2.first m c = some k ∧ (inRooms m c)[0]? = some k ∧ k < m * m := by
  obtain ⟨i, hi, hb, hlt⟩ := some_room F h h1
  have hm : lineEnd m c (m * m + i) ∈ inRooms m c := by
    unfold inRooms begun
    refine List.mem_filter.mpr ⟨List.mem_map.mpr ⟨m * m + i, List.mem_filter.mpr ⟨List.mem_map.mpr ⟨i, List.mem_range.mpr hi, rfl⟩, hb⟩, rfl⟩, decide_eq_true hlt⟩
  rw [first_eq F h]
  cases e : inRooms m c with
  | nil =>
    rw [e] at hm
    exact absurd hm (by simp)
  | cons k l =>
    refine ⟨k, rfl, rfl, ?_⟩
    have : k ∈ inRooms m c := by rw [e]; exact List.mem_cons_self
    unfold inRooms at this
    exact of_decide_eq_true (List.mem_filter.mp this).2
end
end
end
section
section
open Kzs2 (places number noOf Room corners rooms sides colour)
open Kzs3 (okM okMap sent keeps)
/-- the sides of a room by its corners -/
def sidesC (l : List Pl) : List Sd := match l with
  | [a, b, d] => [(a, b), (b, d), (d, a)]
  | _ => []
theorem sidesC_eq (r : Room) : sidesC (corners r) = sides r := rfl
def outS (m i : Nat) : List Sd := [((⟨i, m - i⟩ : Pl), (⟨i + 1, m - i - 1⟩ : Pl))]
def ptsTo (m k : Nat) : List (List Sd) := (rooms m).map sides ++ (List.range k).map (outS m)
theorem ptsTo_zero (m : Nat) : ptsTo m 0 = (rooms m).map sides := by
  unfold ptsTo
  rw [List.range_zero, List.map_nil, List.append_nil]
theorem ptsTo_succ (m k : Nat) : ptsTo m (k + 1) = ptsTo m k ++ [outS m k] := by
  unfold ptsTo
  rw [List.range_succ, List.map_append, List.append_assoc]
  rfl
theorem ptsTo_all (m : Nat) : ptsTo m m = pts m := rfl
/-! ### no side twice -/
def flat (m : Nat) : List Sd := (pts m).flatten
theorem flat1 : ∀ m, m < 7 → (flat m).Nodup := by decide +kernel
theorem flat7 : (flat 7).Nodup := by decide +kernel
theorem flat8 : (flat 8).Nodup := by decide +kernel
theorem flat9 : (flat 9).Nodup := by decide +kernel
theorem flat_nodup {m : Nat} (h : m ≤ 9) : (flat m).Nodup := by
  by_cases h7 : m < 7
  · exact flat1 m h7
  · obtain rfl | rfl | rfl : m = 7 ∨ m = 8 ∨ m = 9 := by omega
    · exact flat7
    · exact flat8
    · exact flat9
/-! ### a map's colours are fair -/
theorem no_at : ∀ m, m < 10 → ∀ j, j < 10 → ∀ i, i < 10 → i + j ≤ m → (places m)[noOf m ⟨i, j⟩]? = some ⟨i, j⟩ := by decide +kernel
theorem places_no {m : Nat} {p : Pl} (h : m ≤ 9) (hp : p.i + p.j ≤ m) : (places m)[noOf m p]? = some p := no_at m (by omega) p.j (by omega) p.i (by omega) hp
theorem colour_of {m : Nat} {p : Pl} {f : Pl → Nat} (h : m ≤ 9) (hp : p.i + p.j ≤ m) : colour m ((places m).map f) p = f p := by
  unfold colour
  rw [List.getD_eq_getElem?_getD, List.getElem?_map, places_no h hp]
  rfl
theorem keeps_fit {m : Nat} {f : List Nat} {p : Pl} (h1 : 1 ≤ m) (h : m ≤ 9) (ho : okMap m f = true) (hp : p.i + p.j ≤ m) : keeps m f p < 3 ∧ fits m f p (keeps m f p) = true := by
  have e := fitting_at h1 hp (sent_ok h ho hp)
  have hm := List.mem_of_getElem? e
  unfold fitting at hm
  rw [List.mem_filter, List.mem_range] at hm
  exact hm
theorem map_fair {m : Nat} {f : List Nat} (h1 : 1 ≤ m) (h : m ≤ 9) (ho : okMap m f = true) : FairC m (Kzs3.mapColours m f) := by
  refine ⟨fun p hp => ?_, fun p hp => ?_⟩
  · rw [show Kzs3.mapColours m f = (places m).map (keeps m f) from rfl, colour_of h hp]
    have := (keeps_fit h1 h ho hp).1
    omega
  · rw [show Kzs3.mapColours m f = (places m).map (keeps m f) from rfl, colour_of h hp]
    have := (keeps_fit h1 h ho hp).2
    unfold fits at this
    rw [Bool.and_eq_true, bne_iff_ne] at this
    exact this.1
open Kzs3 (slice from1 worth choice owner cakeColours) in
theorem cake_fair {m : Nat} {v : List Nat} (h1 : 1 ≤ m) (h : m ≤ 9) : FairC m (cakeColours m v) := by
  refine ⟨fun p hp => ?_, fun p hp => ?_⟩
  · rw [show cakeColours m v = (places m).map (fun p => choice m v (owner p) p) from rfl, colour_of (f := fun p => choice m v (owner p) p) h hp]
    have := (mem_full.mp (choice_is (v := v) (c := owner p) h1 hp).1).1
    omega
  · rw [show cakeColours m v = (places m).map (fun p => choice m v (owner p) p) from rfl, colour_of (f := fun p => choice m v (owner p) p) h hp]
    exact (mem_full.mp (choice_is (v := v) (c := owner p) h1 hp).1).2
theorem ans_nearly (m : Nat) (f : List Nat) : Kzs3.answer (.nearly m f) = if okM m = false ∨ okMap m f = false then Kzs1.say (-22) else match Kzs2.first m (Kzs3.mapColours m f) with
    | none => Kzs1.say (-33)
    | some k => ⟨(k : Nat), (corners ((rooms m).getD k ⟨0, 0, true⟩)).flatMap fun p => [(p.i : Int), (p.j : Int), ((keeps m f p : Nat) : Int)]⟩ := rfl
end
end
open PySem PySem.Spec PyProof.Rows L2
open PySem.W (Codec WData)
open Kzs2 (places number noOf)
open Kzs3 (okM okMap sent keeps)
/-! ### the text by places -/
def top (i : Nat) : Stmt := PySem.Challenge.pw_fixedcakes_s09_shared.main.body.getD i (.Pass ⟨0, 0, 0, 0⟩)
abbrev s_is_size : Stmt := top 5
abbrev s_all_places : Stmt := top 6
abbrev s_place_index : Stmt := top 7
abbrev s_three_numbers : Stmt := top 8
abbrev s_all_rooms : Stmt := top 9
abbrev s_count_rooms : Stmt := top 10
abbrev s_sides_of_points : Stmt := top 11
abbrev s_points_by_side : Stmt := top 12
abbrev s_is_door_out : Stmt := top 13
abbrev s_next_points : Stmt := top 14
abbrev s_end_of_line : Stmt := top 15
abbrev s_first_room : Stmt := top 16
abbrev s_is_cake : Stmt := top 17
abbrev s_piece_worth : Stmt := top 18
abbrev s_best_piece : Stmt := top 19
abbrev s_whose_place : Stmt := top 20
abbrev s_colours_of_cake : Stmt := top 21
abbrev s_corner_of_person : Stmt := top 22
abbrev s_wishes_in_room : Stmt := top 23
abbrev s_shared : Stmt := top 24
/-! ### data -/
abbrev nI (n : Nat) : V := .int (n : Int)
abbrev lI (f : List Nat) : List V := f.map nI
abbrev pT (p : Pl) : HO := .tup [nI p.i, nI p.j]
theorem same_upd {H : Hp} {p : Addr} {o : HO} (h : H p = none) : Same H (upd H p o) := fun b x e => by
  rw [upd_ne (ne_of_none e h)]
  exact e
theorem same_mut {H H' : Hp} {p : Addr} {o : HO} (s : Same H H') (h : H p = none) : Same H (upd H' p o) := fun b x e => by
  rw [upd_ne (ne_of_none e h)]
  exact s _ _ e
theorem iteBF {b : Bool} {A B : Prop} (e : b = false) (h : B) : if b = true then A else B := by
  rw [e]
  exact iteF h
theorem iteBT {b : Bool} {A B : Prop} (e : b = true) (h : A) : if b = true then A else B := by
  rw [e]
  exact iteT h
theorem at_nat {xs : List V} {j : Nat} {v : V} (h : xs[j]? = some v) : atI xs (j : Int) = some v := atI_nat h
theorem lI_at {f : List Nat} {k : Nat} (h : k < f.length) : (lI f)[k]? = some (nI (f.getD k 0)) := by
  rw [List.getElem?_map, List.getElem?_eq_getElem h, List.getD_eq_getElem?_getD, List.getElem?_eq_getElem h]
  rfl
theorem lI_len (f : List Nat) : (lI f).length = f.length := List.length_map _
theorem lI_app (f g : List Nat) : lI (f ++ g) = lI f ++ lI g := List.map_append
section
variable {P : Program} {w : World} {K : PySem.W.Frag} {mg : Str → Option Value} {base : Heap}
open Kzs2 (rooms corners sides)
/-! ### is_size -/
def spIsSize : Sp := fun vs H Q _ => ∃ m : Nat, vs = [nI m] ∧ Q (.bl (okM m)) H
theorem scIsSize : FnScope ["m"] ["m"] (defScope s_is_size) := ⟨rfl, rfl, rfl, by decide +kernel, rfl, by decide +kernel, by decide +kernel⟩
theorem ok_is_size {f : Addr} {fd : FuncData} {t9 : Tok} (F : Fun K "is_size" "is_size" s_is_size f fd) (g9 : mg "GREATEST_SIZE" = some (.int 9 t9)) : FnOk P w K mg base CX0 1 f fd ["m"] spIsSize := by
  refine F.ok scIsSize (fun vs H Q E h => ?_) (fun cdv A outer s H vs Q E hr h => ?_)
  · obtain ⟨m, rfl, _⟩ := h
    rfl
  · obtain ⟨m, rfl, q⟩ := h
    refine ⟨_, pss_one (ps_ret (pe_and (pe_cmp (pc_ge (pv 0) pe_int) rfl) (pe_one (pe_cmp (pc_le (pv 0) (pe_glob (v := .int 9) rfl g9 ⟨_, rfl⟩)) rfl)))), ?_⟩
    refine ⟨_, rfl, _, _, rfl, rfl, _, rfl, ite2 (fun h1 => ?_) (fun h1 => ?_)⟩
    · refine ⟨_, rfl, _, _, rfl, rfl, ?_⟩
      have h1 : (1 : Int) ≤ (m : Int) := of_decide_eq_true h1
      have e : decide ((m : Int) ≤ 9) = okM m := by
        rw [Bool.eq_iff_iff, decide_eq_true_iff, okM_iff]
        omega
      show Q (.bl (decide ((m : Int) ≤ 9))) H
      rw [e]
      exact q
    · have h1 : ¬ (1 : Int) ≤ (m : Int) := fun z => h1 (decide_eq_true z)
      have e : false = okM m := by
        rw [Bool.eq_iff_iff, okM_iff]
        constructor
        · intro z; cases z
        · intro z; omega
      show Q (.bl false) H
      rw [e]
      exact q
/-! ### sums and cuts -/
theorem lI_int (f : List Nat) : lI f = (f.map fun x : Nat => (x : Int)).map V.int := by
  rw [List.map_map]
  rfl
def rSumT (K : PySem.W.Frag) : List V → Hp → VK → Prop := fun vs H Q => ∃ (t : Addr) (ks : List Int), vs = [.ref t] ∧ SqT K H t (ks.map V.int) ∧ Q (.int ks.sum) H
/-- sum of a tuple of whole numbers -/
theorem cr_sumT {X : Cx} (calm : X.calm = true) : CallR X (.builtin "sum") (rSumT X.K) := by
  rintro pins st σ H _ us Q I rv ⟨t, ks, rfl, ht, fin⟩
  obtain ⟨its, ri, hi, _⟩ := I.tuple ht
  rw [Vals.ref1 rv]
  have ia := ri.ints
  obtain ⟨zs, ez⟩ := ia.allInts.items
  have en : PySem.numsOf (PySem.intItems zs).toList = ks := by
    rw [← ez]
    exact ia.numsOf
  rw [nums_intItems] at en
  rw [ez] at hi
  refine PySem.W.ktm_sumG (I.ok.hd calm) hi fun h' tk t' hk => ?_
  refine ⟨.int ks.sum, H, I.kept hk, ⟨t', ?_⟩, fin⟩
  rw [preSum_eq, List.take_of_length_le (by simp), en]
theorem cut_list (v : List Nat) (s n : Nat) (h : s + n ≤ v.length) : cutV (lI v) (some (s : Int)) (some ((s + n : Nat) : Int)) = lI ((v.drop s).take n) := by
  unfold cutV
  rw [HT.sIx_nat, HT.sIx_nat, lI_len, Nat.min_eq_left (by omega), Nat.min_eq_left (by omega), Nat.add_sub_cancel_left]
  show List.take n (List.drop s (v.map nI)) = (List.take n (List.drop s v)).map nI
  rw [List.map_take, List.map_drop]
/-! ### is_cake -/
def spIsCake (K : PySem.W.Frag) : Sp := fun vs H Q _ => ∃ (m : Nat) (a : Addr) (v : List Nat), vs = [nI m, .ref a] ∧ SqL K H a (lI v) ∧ Q (.bl (okC m v)) H
theorem scIsCake : FnScope ["m", "v"] ["m", "v"] (defScope s_is_cake) := ⟨rfl, rfl, rfl, by decide +kernel, rfl, by decide +kernel, by decide +kernel⟩
theorem ok_is_cake {f fS : Addr} {fd fdS : FuncData} {tW : Tok} (F : Fun K "is_cake" "is_cake" s_is_cake f fd) (FS : Fun K "is_size" "is_size" s_is_size fS fdS) (GS : FnOk P w K mg base CX0 1 fS fdS ["m"] spIsSize) (bS : Binds K fdS ["m"] []) (gS : mg "is_size" = some (.ref fS))
    (gW : mg "GREATEST_WORTH" = some (.int 1000 tW)) (ml : mg "len" = none) (mx : mg "max" = none) : FnOk P w K mg base CX0 2 f fd ["m", "v"] (spIsCake K) := by
  refine F.ok scIsCake (fun vs H Q E h => ?_) (fun cdv A outer s H vs Q E hr h => ?_)
  · obtain ⟨m, a, v, rfl, _⟩ := h
    rfl
  · obtain ⟨m, a, v, rfl, ha, q⟩ := h
    refine ⟨_, pss_cons (ps_if (pt_not (pt_val (pe_call GS hr rfl gS FS.kp bS .nil pass0 (pa_cons (pv 0) pa_nil)))) (pss_one (ps_ret pe_bl)) pss_nil)
      (pss_cons (ps_if (pt_cmpR op_ne (pe_callB call_len_seq (by rfl) ml PySem.boot_len (pa_cons (pv 1) pa_nil)) (pe_op op_mul pe_int (pv 0)) (nomark _)) (pss_one (ps_ret pe_bl)) pss_nil)
      (pss_one (ps_ret (pe_cmp (pc_le (pe_callB (cr_max rfl) (by rfl) mx (by decide +kernel) (pa_cons (pv 1) pa_nil)) (pe_glob (v := .int 1000) rfl gW ⟨_, rfl⟩)) rfl)))), ?_⟩
    refine ⟨_, rfl, m, rfl, _, rfl, ?_⟩
    cases hM : okM m with
    | false =>
      have e : okC m v = false := by unfold okC; rw [hM]; rfl
      rw [e] at q
      exact iteT q
    | true =>
      obtain ⟨h1, h9⟩ := okM_iff.mp hM
      refine iteF ?_
      refine ⟨_, rfl, a, _, rfl, .inl ha, _, rfl, _, _, rfl, rfl, .inl ⟨by decide, by decide⟩, rfl, _, rfl, ?_⟩
      by_cases hl : v.length = 3 * m
      · have e1 : (!decide (V.int ((lI v).length : Int) = V.int (3 * (m : Int)))) = false := by
          rw [lI_len, hl, decide_eq_true (by congr 1)]
          rfl
        rw [e1]
        refine iteF ?_
        refine ⟨_, rfl, a, v.map (fun x : Nat => (x : Int)), rfl, by rw [← lI_int]; exact ha, by rw [List.length_map]; omega, fun M hM1 hM2 => ⟨_, _, rfl, rfl, ?_⟩⟩
        have e : decide (M ≤ 1000) = okC m v := by
          unfold okC
          rw [hM, Bool.true_and, Bool.eq_iff_iff, decide_eq_true_iff, okCake_iff]
          constructor
          · intro z
            refine ⟨hl, fun x hx => ?_⟩
            have := hM2 (x : Int) (List.mem_map.mpr ⟨x, hx, rfl⟩)
            omega
          · rintro ⟨_, z⟩
            obtain ⟨x, hx, rfl⟩ := List.mem_map.mp hM1
            have := z x hx
            omega
        show Q (.bl (decide (M ≤ 1000))) H
        rw [e]
        exact q
      · have e1 : (!decide (V.int ((lI v).length : Int) = V.int (3 * (m : Int)))) = true := by
          rw [lI_len, decide_eq_false (by intro z; have := V.int.inj z; omega)]
          rfl
        rw [e1]
        have e : okC m v = false := by
          cases ho : okC m v with
          | false => rfl
          | true => exact absurd (okC_s ho).2.2.1 hl
        rw [e] at q
        exact iteT q
/-! ### three_numbers -/
abbrev nums (m : Nat) (p : Pl) : List V := [nI (number m p 0), nI (number m p 1), nI (number m p 2)]
theorem nums_at (m : Nat) (p : Pl) {c : Nat} (h : c < 3) : (nums m p)[c]? = some (nI (number m p c)) := by
  match c, h with
  | 0, _ => rfl
  | 1, _ => rfl
  | 2, _ => rfl
def spThree : Sp := fun vs H Q _ => ∃ (m : Nat) (a : Addr) (p : Pl), vs = [nI m, .ref a] ∧ p.i + p.j ≤ m ∧ H a = some (pT p) ∧ ∀ t, H t = none → Q (.ref t) (upd H t (.tup (nums m p)))
theorem scThree : FnScope ["m", "place"] ["m", "place"] (defScope s_three_numbers) := ⟨rfl, rfl, rfl, by decide +kernel, rfl, by decide +kernel, by decide +kernel⟩
theorem ok_three_numbers {f : Addr} {fd : FuncData} (F : Fun K "three_numbers" "three_numbers" s_three_numbers f fd) : FnOk P w K mg base CX0 1 f fd ["m", "place"] spThree := by
  refine F.ok scThree (fun vs H Q E h => ?_) (fun cdv A outer s H vs Q E hr h => ?_)
  · obtain ⟨m, a, p, rfl, _⟩ := h
    rfl
  · obtain ⟨m, a, p, rfl, hp, ha, q⟩ := h
    refine ⟨_, pss_one (ps_ret (pe_tup (pa_cons (pe_ix ix_tup (pv 1) pe_int (fun _ _ => rfl)) (pa_cons (pe_ix ix_tup (pv 1) pe_int (fun _ _ => rfl))
      (pa_cons (pe_op op_sub (pe_op op_sub (pv 0) (pe_ix ix_tup (pv 1) pe_int (fun _ _ => rfl))) (pe_ix ix_tup (pv 1) pe_int (fun _ _ => rfl))) pa_nil))))), ?_⟩
    refine ⟨_, rfl, a, _, _, nI p.i, rfl, rfl, SqT.of ha, at_nat (j := 0) rfl, _, rfl, a, _, _, nI p.j, rfl, rfl, SqT.of ha, at_nat (j := 1) rfl,
      _, rfl, _, rfl, a, _, _, nI p.i, rfl, rfl, SqT.of ha, at_nat (j := 0) rfl, _, _, rfl, rfl, _, rfl, a, _, _, nI p.j, rfl, rfl, SqT.of ha, at_nat (j := 1) rfl, _, _, rfl, rfl, ?_⟩
    refine ⟨by show 3 ≤ sizeLine; decide, fun t ht => ?_⟩
    have e : ((m : Int) - (p.i : Int) - (p.j : Int)) = ((number m p 2 : Nat) : Int) := by
      show _ = ((m - p.i - p.j : Nat) : Int)
      omega
    show Q (.ref t) (upd H t (.tup [nI p.i, nI p.j, .int ((m : Int) - (p.i : Int) - (p.j : Int))]))
    rw [e]
    exact q t ht
/-! ### piece_worth -/
def before (p : Pl) (k : Nat) : List Int := [(p.i : Int), (p.j : Int)].take k
theorem before_cut (m : Nat) (p : Pl) {k : Nat} (hk : k < 3) : cutV (nums m p) none (some (k : Int)) = (before p k).map V.int := by
  match k, hk with
  | 0, _ => rfl
  | 1, _ => rfl
  | 2, _ => rfl
theorem before_sum (p : Pl) {k : Nat} (hk : k < 3) : (before p k).sum = ((Kzs3.from1 p k : Nat) : Int) := by
  match k, hk with
  | 0, _ => rfl
  | 1, _ => show (p.i : Int) + 0 = (p.i : Int); omega
  | 2, _ => show (p.i : Int) + ((p.j : Int) + 0) = ((p.i + p.j : Nat) : Int); omega
theorem not_whole (m : Nat) (p : Pl) {k : Nat} (hk : k < 3) : ¬ (HT.sIx (nums m p).length 0 none = 0 ∧ HT.sIx (nums m p).length (nums m p).length (some (k : Int)) = (nums m p).length) := by
  rintro ⟨_, z⟩
  rw [HT.sIx_nat] at z
  have : min k 3 = 3 := z
  omega
def spPiece (K : PySem.W.Frag) : Sp := fun vs H Q _ => ∃ (m : Nat) (a : Addr) (c : Nat) (b : Addr) (k : Nat) (v : List Nat) (p : Pl), vs = [nI m, .ref a, nI c, .ref b, nI k] ∧ m ≤ 9 ∧ v.length = 3 * m ∧ SqL K H a (lI v) ∧ c < 3 ∧ k < 3 ∧ p.i + p.j ≤ m ∧ H b = some (pT p) ∧ ∀ H', Same H H' → Q (nI (Kzs3.worth m v c p k)) H'
theorem scPiece : FnScope ["m", "v", "c", "place", "k", "lengths", "start"] ["m", "v", "c", "place", "k"] (defScope s_piece_worth) := ⟨rfl, rfl, rfl, by decide +kernel, rfl, by decide +kernel, by decide +kernel⟩
theorem ok_piece_worth {f f3 : Addr} {fd fd3 : FuncData} (F : Fun K "piece_worth" "piece_worth" s_piece_worth f fd) (F3 : Fun K "three_numbers" "three_numbers" s_three_numbers f3 fd3) (G3 : FnOk P w K mg base CX0 1 f3 fd3 ["m", "place"] spThree)
    (b3 : Binds K fd3 ["m", "place"] []) (g3 : mg "three_numbers" = some (.ref f3)) (ms : mg "sum" = none) : FnOk P w K mg base CX0 2 f fd ["m", "v", "c", "place", "k"] (spPiece K) := by
  refine F.ok scPiece (fun vs H Q E h => ?_) (fun cdv A outer s H vs Q E hr h => ?_)
  · obtain ⟨m, a, c, b, k, v, p, rfl, _⟩ := h
    rfl
  · obtain ⟨m, a, c, b, k, v, p, rfl, h9, hv, ha, hc, hk, hp, hb, q⟩ := h
    refine ⟨_, pss_cons (ps_set (i := 5) scPiece.nd rfl (.inl rfl) (pe_call G3 hr rfl g3 F3.kp b3 .nil pass0 (pa_cons (pv 0) (pa_cons (pv 3) pa_nil))))
      (pss_cons (ps_set (i := 6) scPiece.nd rfl (.inl rfl) (pe_op op_add (pe_op op_mul (pv 2) (pv 0)) (pe_callB (cr_sumT rfl) (by rfl) ms (by decide +kernel) (pa_cons (pe_slice sl_tup (pv 5) po_none (po_some (pv 4))) pa_nil))))
      (pss_one (ps_ret (pe_callB (cr_sum rfl) (by rfl) ms (by decide +kernel) (pa_cons (pe_slice sl_list (pv 1) (po_some (pv 6)) (po_some (pe_op op_add (pv 6) (pe_ix ix_tup (pv 5) (pv 4) (fun _ _ => rfl))))) pa_nil))))), ?_⟩
    -- lengths
    refine ⟨_, rfl, _, rfl, m, b, p, rfl, hp, hb, fun h nh => ?_⟩
    have s1 := same_upd (o := .tup (nums m p)) nh
    have eh : upd H h (.tup (nums m p)) h = some (.tup (nums m p)) := upd_same
    generalize upd H h (.tup (nums m p)) = H1 at s1 eh ⊢
    -- start
    refine ⟨_, rfl, _, rfl, _, _, rfl, rfl, .inl ⟨by omega, by omega⟩, _, rfl, _, rfl, _, rfl, h, _, rfl, SqT.of eh, not_whole m p hk, fun t nt => ?_⟩
    have s2 := same_upd (o := .tup (cutV (nums m p) none (some (k : Int)))) nt
    have et : upd H1 t (.tup (cutV (nums m p) none (some (k : Int)))) t = some (.tup ((before p k).map V.int)) := by rw [upd_same, before_cut m p hk]
    generalize upd H1 t (.tup (cutV (nums m p) none (some (k : Int)))) = H2 at s2 et ⊢
    refine ⟨t, before p k, rfl, SqT.of et, _, _, rfl, rfl, ?_⟩
    have es : (c : Int) * (m : Int) + (before p k).sum = ((c * m + Kzs3.from1 p k : Nat) : Int) := by
      rw [before_sum p hk, Int.natCast_add, Int.natCast_mul]
    dsimp only
    rw [es]
    have hin := from_in hp hk
    have hcm : c * m ≤ 2 * m := Nat.mul_le_mul_right m (by omega)
    have hle : c * m + Kzs3.from1 p k + number m p k ≤ v.length := by omega
    have hw : Kzs3.worth m v c p k = ((v.drop (c * m + Kzs3.from1 p k)).take (number m p k)).sum := by rw [worth_sum, piece_slice hv hc hp hk]
    generalize c * m + Kzs3.from1 p k = st at hle hw ⊢
    -- the slices
    refine ⟨_, rfl, _, rfl, _, rfl, _, rfl, _, rfl, _, rfl, h, _, _, _, rfl, rfl, SqT.of (s2 _ _ eh), at_of (j := k) rfl (nums_at m p hk), _, _, rfl, rfl, _, rfl, a, _, rfl, s2.seq (s1.seq ha), fun l nl => ?_⟩
    have ec : cutV (lI v) (some (st : Int)) (some ((st : Int) + ((number m p k : Nat) : Int))) = ((((v.drop st).take (number m p k)).map fun x : Nat => (x : Int))).map V.int := by
      rw [← lI_int, ← Int.natCast_add, cut_list v st _ hle]
    have en : nI (Kzs3.worth m v c p k) = V.int (((v.drop st).take (number m p k)).map fun x : Nat => (x : Int)).sum := by
      rw [hw]
      exact congrArg V.int (sum_cast _).symm
    have fin := q _ (s1.trans (s2.trans (same_upd (o := .lst (cutV (lI v) (some (st : Int)) (some ((st : Int) + ((number m p k : Nat) : Int))))) nl)))
    rw [en] at fin
    exact ⟨l, _, rfl, SqL.of (by rw [upd_same, ec]), fin⟩
/-! ### best_piece -/
def spBest (K : PySem.W.Frag) : Sp := fun vs H Q _ => ∃ (m : Nat) (a : Addr) (c : Nat) (b : Addr) (v : List Nat) (p : Pl), vs = [nI m, .ref a, nI c, .ref b] ∧ 1 ≤ m ∧ m ≤ 9 ∧ v.length = 3 * m ∧ SqL K H a (lI v) ∧ c < 3 ∧ p.i + p.j ≤ m ∧ H b = some (pT p) ∧ ∀ H', Same H H' → Q (nI (Kzs3.choice m v c p)) H'
theorem scBest : FnScope ["m", "v", "c", "place", "lengths", "filled", "best", "k"] ["m", "v", "c", "place"] (defScope s_best_piece) := ⟨rfl, rfl, rfl, by decide +kernel, rfl, by decide +kernel, by decide +kernel⟩
theorem ne_zero_bool (n : Nat) : (!decide (nI n = V.int 0)) = (n != 0) := by
  rw [bne, Bool.beq_eq_decide_eq]
  congr 1
  rw [Bool.eq_iff_iff, decide_eq_true_iff, decide_eq_true_iff]
  constructor
  · intro h
    have := V.int.inj h
    omega
  · intro h
    rw [h]
    rfl
theorem ok_best_piece {f f3 fW : Addr} {fd fd3 fdW : FuncData} (F : Fun K "best_piece" "best_piece" s_best_piece f fd) (F3 : Fun K "three_numbers" "three_numbers" s_three_numbers f3 fd3) (FW : Fun K "piece_worth" "piece_worth" s_piece_worth fW fdW)
    (G3 : FnOk P w K mg base CX0 1 f3 fd3 ["m", "place"] spThree) (GW : FnOk P w K mg base CX0 2 fW fdW ["m", "v", "c", "place", "k"] (spPiece K)) (b3 : Binds K fd3 ["m", "place"] []) (bW : Binds K fdW ["m", "v", "c", "place", "k"] [])
    (g3 : mg "three_numbers" = some (.ref f3)) (gW : mg "piece_worth" = some (.ref fW)) (mr : mg "range" = none) : FnOk P w K mg base CX0 3 f fd ["m", "v", "c", "place"] (spBest K) := by
  refine F.ok scBest (fun vs H Q E h => ?_) (fun cdv A outer s H vs Q E hr h => ?_)
  · obtain ⟨m, a, c, b, v, p, rfl, _⟩ := h
    rfl
  · obtain ⟨m, a, c, b, v, p, rfl, h1, h9, hv, ha, hc, hp, hb, q⟩ := h
    have hr1 : Room 1 _ := hr.mono (by decide)
    refine ⟨_, pss_cons (ps_set (i := 4) scBest.nd rfl (.inr rfl) (pe_call G3 hr1 rfl g3 F3.kp b3 .nil pass0 (pa_cons (pv 0) (pa_cons (pv 3) pa_nil))))
      (pss_cons (ps_setLc (i := 5) (own := [("k", 7)]) (g := gName 7) (tt := tTest (tOp rNe (tOp (rIxT K) (tVar 4) (tVar 7)) (tC (.int 0)))) (te := tVar 7)
          rfl scBest.nd rfl rfl (sw_true rfl rfl rfl (by decide +kernel)) (pi_range1 rfl mr (pa_cons pe_int pa_nil)) (blkOk_by (own := [("k", 7)]) (N := ["m", "v", "c", "place", "lengths", "filled", "best", "k"]) (sc := defScope s_best_piece) (by decide +kernel))
          (fun _ _ _ _ _ => pg_name (i := 7) scBest.nd rfl (.inl rfl))
          (fun _ _ _ _ _ => pts_one (pt_cmpR op_ne (pe_ix ix_tup (pv 4) (pv 7) (fun _ _ => rfl)) pe_int (nomark _)))
          (fun _ _ _ _ _ => pv 7))
      (pss_cons (ps_set (i := 6) scBest.nd rfl (.inl rfl) (pe_ix ix_list (pv 5) pe_int (fun _ _ => rfl)))
      (pss_cons (ps_for PassesOwn.never rfl (pi_list (pv 5)) (pg_name (i := 7) scBest.nd rfl (.inl rfl))
        (pss_one (ps_if (pt_cmpR op_gt (pe_call GW hr rfl gW FW.kp bW .nil pass0 (pa_cons (pv 0) (pa_cons (pv 1) (pa_cons (pv 2) (pa_cons (pv 3) (pa_cons (pv 7) pa_nil))))))
            (pe_call GW hr rfl gW FW.kp bW .nil pass0 (pa_cons (pv 0) (pa_cons (pv 1) (pa_cons (pv 2) (pa_cons (pv 3) (pa_cons (pv 6) pa_nil)))))) (nomark _))
          (pss_one (ps_set (i := 6) scBest.nd rfl (.inl rfl) (pv 7))) pss_nil)))
      (pss_one (ps_ret (pv 6)))))), ?_⟩
    -- lengths
    refine ⟨_, rfl, _, rfl, m, b, p, rfl, hp, hb, fun h nh => ?_⟩
    have s1 := same_upd (o := .tup (nums m p)) nh
    have eh : upd H h (.tup (nums m p)) h = some (.tup (nums m p)) := upd_same
    generalize upd H h (.tup (nums m p)) = H1 at s1 eh ⊢
    -- filled
    refine ⟨3, rfl, by decide, by decide, fun D nD => ?_⟩
    refine lc_range (n := 3) (fun i H' => Same H1 H' ∧ H' D = some (.lst (lI (fullTo m p i)))) ⟨same_upd nD, upd_same⟩ ?_ ?_
    · rintro i H2 hi ⟨s2, eD⟩
      have hat : atI (nums m p) (0 + (i : Int)) = some (nI (number m p i)) := at_of (j := i) (by omega) (nums_at m p hi)
      have hlen : (lI (fullTo m p i)).length < sizeLine := by
        rw [lI_len]
        exact Nat.lt_of_le_of_lt (fullTo_len m p i) (small1000 (by omega))
      refine ⟨rfl, _, rfl, _, rfl, h, _, _, _, rfl, rfl, SqT.of (s2 _ _ eh), hat, rfl, _, rfl, ?_⟩
      have eb := ne_zero_bool (number m p i)
      cases ho : (number m p i != 0) with
      | false =>
        refine iteBF (eb.trans ho) ⟨s2, ?_⟩
        rw [fullTo_succ, ho, if_neg Bool.false_ne_true, List.append_nil]
        exact eD
      | true =>
        refine iteBT (eb.trans ho) ⟨_, rfl, _, eD, hlen, same_mut s2 nD, ?_⟩
        rw [upd_same, fullTo_succ, ho, if_pos rfl, lI_app]
        show some (HO.lst (_ ++ [V.int (0 + (i : Int))])) = _
        rw [Int.zero_add]
        rfl
    · rintro H2 ⟨s2, eD⟩
      rw [show fullTo m p 3 = full m p from rfl] at eD
      obtain ⟨x0, e0, hx0⟩ := full_at h1 hp
      -- best = filled[0]
      refine ⟨_, rfl, D, _, _, nI x0, rfl, rfl, SqL.of eD, at_of (j := 0) rfl (by rw [List.getElem?_map, e0]; rfl), ?_⟩
      -- for k in filled
      refine ⟨_, rfl, D, rfl, ⟨_, SqL.of eD⟩, for_list (K := K) (a := D) (xs := lI (full m p)) (fun i σ H' => ∃ (v7 : Option V) (x : Nat), σ = [some (nI m), some (.ref a), some (nI c), some (.ref b), some (.ref h), some (.ref D), some (nI x), v7] ∧ Same H2 H' ∧ x < 3 ∧ ((full m p).take i).foldl (likes m v c p) (some x0) = some x)
        ⟨_, x0, rfl, fun _ _ e => e, hx0, rfl⟩ (fun i σ H' _ ⟨_, _, _, s3, _⟩ => SqL.of (s3 _ _ eD)) ?_ ?_⟩
      · rintro i y σ H3 hy ⟨v7, x, rfl, s3, hx, ef⟩
        have hk : i < (full m p).length := by
          have := (List.getElem?_eq_some_iff.mp hy).1
          rwa [lI_len] at this
        have eB : (full m p)[i]? = some (full m p)[i] := List.getElem?_eq_getElem hk
        have hk3 := (mem_full.mp (List.getElem_mem hk)).1
        generalize (full m p)[i] = k at eB hk3
        have ey : y = nI k := by
          rw [List.getElem?_map, eB] at hy
          exact (Option.some.inj hy).symm
        subst ey
        have sa : Same H H3 := s1.trans (s2.trans s3)
        refine ⟨_, rfl, _, rfl, _, rfl, _, rfl, _, rfl, m, a, c, b, k, v, p, rfl, h9, hv, sa.seq ha, hc, hk3, hp, sa _ _ hb, fun H4 s4 => ?_⟩
        refine ⟨_, rfl, _, rfl, _, rfl, _, rfl, _, rfl, m, a, c, b, x, v, p, rfl, h9, hv, (sa.trans s4).seq ha, hc, hx, hp, (sa.trans s4) _ _ hb, fun H5 s5 => ?_⟩
        have s35 : Same H2 H5 := s3.trans (s4.trans s5)
        have en : ((full m p).take (i + 1)).foldl (likes m v c p) (some x0) = if Kzs3.worth m v c p x < Kzs3.worth m v c p k then some k else some x := by
          rw [take_snoc eB, List.foldl_append, ef]
          rfl
        refine ⟨_, _, rfl, rfl, _, rfl, ite2 (fun z => ?_) (fun z => ?_)⟩
        · have z : ((Kzs3.worth m v c p x : Nat) : Int) < ((Kzs3.worth m v c p k : Nat) : Int) := of_decide_eq_true z
          rw [if_pos (by omega)] at en
          exact ⟨_, rfl, _, k, rfl, s35, hk3, en⟩
        · have z : ¬ ((Kzs3.worth m v c p x : Nat) : Int) < ((Kzs3.worth m v c p k : Nat) : Int) := fun y => z (decide_eq_true y)
          rw [if_neg (by omega)] at en
          exact ⟨_, x, rfl, s35, hx, en⟩
      · rintro σ H3 ⟨v7, x, rfl, s3, hx, ef⟩
        rw [lI_len, List.take_length] at ef
        have e := likes_all e0 ef
        refine ⟨_, rfl, ?_⟩
        rw [← e]
        exact q H3 (s1.trans (s2.trans s3))
/-! ### whose_place -/
theorem owner_lt (p : Pl) : Kzs3.owner p < 3 := Nat.mod_lt _ (by decide)
def spWhose : Sp := fun vs H Q _ => ∃ (a : Addr) (p : Pl), vs = [.ref a] ∧ H a = some (pT p) ∧ Q (nI (Kzs3.owner p)) H
theorem scWhose : FnScope ["place"] ["place"] (defScope s_whose_place) := ⟨rfl, rfl, rfl, by decide +kernel, rfl, by decide +kernel, by decide +kernel⟩
theorem ok_whose_place {f : Addr} {fd : FuncData} (F : Fun K "whose_place" "whose_place" s_whose_place f fd) : FnOk P w K mg base CX0 1 f fd ["place"] spWhose := by
  refine F.ok scWhose (fun vs H Q E h => ?_) (fun cdv A outer s H vs Q E hr h => ?_)
  · obtain ⟨a, p, rfl, _⟩ := h
    rfl
  · obtain ⟨a, p, rfl, ha, q⟩ := h
    refine ⟨_, pss_one (ps_ret (pe_op op_mod (pe_op op_add (pe_ix ix_tup (pv 0) pe_int (fun _ _ => rfl)) (pe_op op_mul pe_int (pe_ix ix_tup (pv 0) pe_int (fun _ _ => rfl)))) pe_int)), ?_⟩
    refine ⟨_, rfl, a, _, _, nI p.i, rfl, rfl, SqT.of ha, at_nat (j := 0) rfl, _, rfl, a, _, _, nI p.j, rfl, rfl, SqT.of ha, at_nat (j := 1) rfl, _, _, rfl, rfl, .inl ⟨by decide, by decide⟩, _, _, rfl, rfl, _, _, rfl, rfl, (by show (0 : Int) < 3; decide), ?_⟩
    have e : ((p.i : Int) + 2 * (p.j : Int)) % 3 = ((Kzs3.owner p : Nat) : Int) := by
      unfold Kzs3.owner
      omega
    show Q (.int (((p.i : Int) + 2 * (p.j : Int)) % 3)) H
    rw [e]
    exact q
/-! ### places in the heap -/
def PlsAt (H : Hp) (as : List Addr) (ps : List Pl) : Prop := as.length = ps.length ∧ ∀ (k : Nat) (p : Pl), ps[k]? = some p → ∃ a, as[k]? = some a ∧ H a = some (pT p)
theorem PlsAt.mono {H H' : Hp} {as : List Addr} {ps : List Pl} (h : PlsAt H as ps) (s : Same H H') : PlsAt H' as ps :=
  ⟨h.1, fun k p e => let ⟨a, e1, e2⟩ := h.2 k p e; ⟨a, e1, s _ _ e2⟩⟩
theorem PlsAt.snoc {H : Hp} {as : List Addr} {ps : List Pl} {a : Addr} {p : Pl} (h : PlsAt H as ps) (e : H a = some (pT p)) : PlsAt H (as ++ [a]) (ps ++ [p]) := by
  refine ⟨by rw [List.length_append, List.length_append, h.1]; rfl, fun k q hq => ?_⟩
  by_cases hk : k < ps.length
  · rw [List.getElem?_append_left hk] at hq
    rw [List.getElem?_append_left (by rw [h.1]; exact hk)]
    exact h.2 k q hq
  · rw [List.getElem?_append_right (by omega)] at hq
    rw [List.getElem?_append_right (by rw [h.1]; omega), h.1]
    have hz : k - ps.length = 0 := by
      cases z : k - ps.length with
      | zero => rfl
      | succ n => rw [z] at hq; simp at hq
    rw [hz] at hq ⊢
    have e2 : p = q := Option.some.inj hq
    subst e2
    exact ⟨a, rfl, e⟩
theorem PlsAt.put {H : Hp} {as : List Addr} {ps : List Pl} {l : Addr} {xs : List V} {o : HO} (h : PlsAt H as ps) (e : H l = some (.lst xs)) : PlsAt (upd H l o) as ps :=
  ⟨h.1, fun k p q => let ⟨a, e1, e2⟩ := h.2 k p q; ⟨a, e1, by rw [upd_ne (ne_of e2 e (by intro z; cases z))]; exact e2⟩⟩
/-! ### all_places -/
def spPlaces : Sp := fun vs H Q _ => ∃ m : Nat, vs = [nI m] ∧ m ≤ 9 ∧ ∀ (H' : Hp) (l : Addr) (as : List Addr), Same H H' → H l = none → H' l = some (.lst (as.map V.ref)) → PlsAt H' as (places m) → Q (.ref l) H'
theorem scPlaces : FnScope ["m", "found", "j", "i"] ["m"] (defScope s_all_places) := ⟨rfl, rfl, rfl, by decide +kernel, rfl, by decide +kernel, by decide +kernel⟩
theorem ok_all_places {f : Addr} {fd : FuncData} (F : Fun K "all_places" "all_places" s_all_places f fd) (mr : mg "range" = none) : FnOk P w K mg base CX0 1 f fd ["m"] spPlaces := by
  refine F.ok scPlaces (fun vs H Q E h => ?_) (fun cdv A outer s H vs Q E hr h => ?_)
  · obtain ⟨m, rfl, _⟩ := h
    rfl
  · obtain ⟨m, rfl, h9, q⟩ := h
    refine ⟨_, pss_cons (ps_set (i := 1) scPlaces.nd rfl (.inl rfl) (pe_lst pa_nil))
      (pss_cons (ps_for PassesOwn.never rfl (pi_range1 rfl mr (pa_cons (pe_op op_add (pv 0) pe_int) pa_nil)) (pg_name (i := 2) scPlaces.nd rfl (.inl rfl))
        (pss_one (ps_for PassesOwn.never rfl (pi_range1 rfl mr (pa_cons (pe_op op_sub (pe_op op_add (pv 0) pe_int) (pv 2)) pa_nil)) (pg_name (i := 3) scPlaces.nd rfl (.inl rfl))
          (pss_one (ps_expr (pe_bm PySem.F.plainAttrs_list PySem.F.slot_list_append PySem.F.type_list_append mt_append (pv 1) (pa_cons (pe_tup (pa_cons (pv 3) (pa_cons (pv 2) pa_nil))) pa_nil)))))))
      (pss_one (ps_ret (pv 1)))), ?_⟩
    refine ⟨Nat.zero_le _, fun l nl => ?_⟩
    have t1 : (((m : Int) + 1)).toNat = m + 1 := by omega
    refine ⟨_, rfl, _, _, rfl, rfl, _, rfl, by omega, by omega, for_range (n := ((m : Int) + 1).toNat) (fun j σ H' => ∃ (v2 v3 : Option V) (as : List Addr), σ = [some (nI m), some (.ref l), v2, v3] ∧ Same H H' ∧ H' l = some (.lst (as.map V.ref)) ∧ PlsAt H' as (rowsTo m j))
      ⟨none, none, [], rfl, same_upd nl, upd_same, rfl, fun k p hq => by simp [rowsTo] at hq⟩ ?_ ?_⟩
    · rintro j σ H1 hj ⟨v2, v3, as, rfl, s1, el, pa⟩
      rw [t1] at hj
      have t2 : (((m : Int) + 1 - (0 + (j : Int)))).toNat = m + 1 - j := by omega
      refine ⟨_, rfl, _, _, rfl, rfl, _, rfl, _, _, rfl, rfl, _, rfl, by omega, by omega, for_range (n := ((m : Int) + 1 - (0 + (j : Int))).toNat) (fun i σ H' => ∃ (v3 : Option V) (as : List Addr), σ = [some (nI m), some (.ref l), some (.int (0 + (j : Int))), v3] ∧ Same H H' ∧ H' l = some (.lst (as.map V.ref)) ∧ PlsAt H' as (partTo m j i))
        ⟨v3, as, rfl, s1, el, by rw [partTo_zero]; exact pa⟩ ?_ ?_⟩
      · rintro i σ H2 hi ⟨v3, as, rfl, s2, el, pa⟩
        rw [t2] at hi
        refine ⟨_, rfl, .inl ⟨rfl, _, SqL.of el⟩, _, rfl, _, rfl, by show 2 ≤ sizeLine; decide, fun t nt => ?_⟩
        have s3 := same_upd (o := .tup [.int (0 + (i : Int)), .int (0 + (j : Int))]) nt
        have et : upd H2 t (.tup [.int (0 + (i : Int)), .int (0 + (j : Int))]) t = some (pT ⟨i, j⟩) := by
          rw [upd_same, Int.zero_add, Int.zero_add]
        refine ⟨l, _, _, rfl, rfl, s3 _ _ el, ?_, ?_⟩
        · rw [List.length_map, pa.1]
          exact Nat.lt_of_le_of_lt (partTo_len h9 (by omega) (by omega)) (small1000 (by decide))
        · refine ⟨_, as ++ [t], rfl, same_mut (s2.trans s3) nl, ?_, ?_⟩
          · rw [upd_same, List.map_append]
            rfl
          · rw [partTo_succ]
            exact ((pa.mono s3).snoc et).put (s3 _ _ el)
      · rintro σ H2 ⟨v3, as, rfl, s2, el, pa⟩
        rw [t2, ← rowsTo_succ] at pa
        exact ⟨_, _, as, rfl, s2, el, pa⟩
    · rintro σ H1 ⟨v2, v3, as, rfl, s1, el, pa⟩
      rw [t1] at pa
      exact ⟨_, rfl, q H1 l as s1 nl el pa⟩
/-! ### colours_of_cake -/
def spCakeCs (K : PySem.W.Frag) : Sp := fun vs H Q _ => ∃ (m : Nat) (a : Addr) (v : List Nat), vs = [nI m, .ref a] ∧ 1 ≤ m ∧ m ≤ 9 ∧ v.length = 3 * m ∧ SqL K H a (lI v) ∧ ∀ (H' : Hp) (l : Addr), Same H H' → H l = none → H' l = some (.lst (lI (Kzs3.cakeColours m v))) → Q (.ref l) H'
theorem scCakeCs : FnScope ["m", "v", "place"] ["m", "v"] (defScope s_colours_of_cake) := ⟨rfl, rfl, rfl, by decide +kernel, rfl, by decide +kernel, by decide +kernel⟩
theorem cakeCs_len (m : Nat) (v : List Nat) : (Kzs3.cakeColours m v).length = cnt m := List.length_map _
theorem ok_colours_of_cake {f fB fW fA : Addr} {fd fdB fdW fdA : FuncData} (F : Fun K "colours_of_cake" "colours_of_cake" s_colours_of_cake f fd) (FB : Fun K "best_piece" "best_piece" s_best_piece fB fdB) (FW : Fun K "whose_place" "whose_place" s_whose_place fW fdW) (FA : Fun K "all_places" "all_places" s_all_places fA fdA)
    (GB : FnOk P w K mg base CX0 3 fB fdB ["m", "v", "c", "place"] (spBest K)) (GW : FnOk P w K mg base CX0 1 fW fdW ["place"] spWhose) (GA : FnOk P w K mg base CX0 1 fA fdA ["m"] spPlaces)
    (bB : Binds K fdB ["m", "v", "c", "place"] []) (bW : Binds K fdW ["place"] []) (bA : Binds K fdA ["m"] [])
    (gB : mg "best_piece" = some (.ref fB)) (gW : mg "whose_place" = some (.ref fW)) (gA : mg "all_places" = some (.ref fA)) : FnOk P w K mg base CX0 4 f fd ["m", "v"] (spCakeCs K) := by
  refine F.ok scCakeCs (fun vs H Q E h => ?_) (fun cdv A outer s H vs Q E hr h => ?_)
  · obtain ⟨m, a, v, rfl, _⟩ := h
    rfl
  · obtain ⟨m, a, v, rfl, h1, h9, hv, ha, q⟩ := h
    have hr1 : Room 1 _ := hr.mono (by decide)
    refine ⟨_, pss_one (ps_ret (pe_lc (own := [("place", 2)]) (g := gName 2) (tt := tYes) (te := tCall (spBest K) [] E0 (tCons (tVar 0) (tCons (tVar 1) (tCons (tCall spWhose [] E0 (tCons (tVar 2) tNil)) (tCons (tVar 2) tNil))))) rfl scCakeCs.nd
      (pi_list (pe_call GA hr1 rfl gA FA.kp bA .nil pass0 (pa_cons (pv 0) pa_nil))) (blkOk_by (own := [("place", 2)]) (N := ["m", "v", "place"]) (sc := defScope s_colours_of_cake) (by decide +kernel))
      (fun _ _ _ _ _ => pg_name (i := 2) scCakeCs.nd rfl (.inl rfl)) (fun _ _ _ _ _ => pts_nil)
      (fun _ _ _ _ _ => pe_call GB hr rfl gB FB.kp bB .nil pass0 (pa_cons (pv 0) (pa_cons (pv 1) (pa_cons (pe_call GW hr1 rfl gW FW.kp bW .nil pass0 (pa_cons (pv 2) pa_nil)) (pa_cons (pv 2) pa_nil))))))), ?_⟩
    refine ⟨_, rfl, m, rfl, h9, fun H1 l as s1 nl el pa => ⟨l, rfl, ⟨_, SqL.of el⟩, fun D nD => ?_⟩⟩
    refine lc_list (K := K) (a := l) (xs := as.map V.ref) (fun c H' => Same H1 H' ∧ H' D = some (.lst (lI ((Kzs3.cakeColours m v).take c)))) ⟨same_upd nD, upd_same⟩ (fun i H' _ ⟨s2, _⟩ => SqL.of (s2 _ _ el)) ?_ ?_
    · rintro c x H' hc ⟨s2, eD⟩
      have hk : c < as.length := by
        rw [List.getElem?_map] at hc
        cases z : as[c]? with
        | none => rw [z] at hc; cases hc
        | some y => exact (List.getElem?_eq_some_iff.mp z).1
      have hk2 : c < (places m).length := by rw [← pa.1]; exact hk
      obtain ⟨y, ey, hy⟩ := pa.2 c _ (List.getElem?_eq_getElem hk2)
      have ex : x = .ref y := by
        rw [List.getElem?_map, ey] at hc
        exact (Option.some.inj hc).symm
      subst ex
      have hp : (places m)[c].i + (places m)[c].j ≤ m := mem_places.mp (List.getElem_mem hk2)
      refine ⟨rfl, _, rfl, _, rfl, _, rfl, y, (places m)[c], rfl, s2 _ _ hy, _, rfl, m, a, Kzs3.owner (places m)[c], y, v, (places m)[c], rfl, h1, h9, hv, s2.seq (s1.seq ha), owner_lt _, hp, s2 _ _ hy, fun H4 s4 => ?_⟩
      refine ⟨_, s4 _ _ eD, ?_, same_mut (s2.trans s4) nD, ?_⟩
      · rw [lI_len]
        refine Nat.lt_of_le_of_lt (List.length_take_le _ _) (small1000 ?_)
        have := cnt_le m (by omega)
        unfold cnt at this
        omega
      · rw [upd_same, take_snoc (x := Kzs3.choice m v (Kzs3.owner (places m)[c]) (places m)[c]) ?_, lI_app]
        · rfl
        · unfold Kzs3.cakeColours
          rw [List.getElem?_map, List.getElem?_eq_getElem hk2]
          rfl
    · rintro H' ⟨s2, eD⟩
      refine q H' D (s1.trans s2) (s1.free nD) ?_
      rw [eD, List.length_map, pa.1, List.take_of_length_le (by rw [cakeCs_len]; exact Nat.le_refl _)]
/-! ### count_rooms -/
def spCountR : Sp := fun vs H Q _ => ∃ m : Nat, vs = [nI m] ∧ m ≤ 9 ∧ Q (nI (m * m)) H
theorem scCountR : FnScope ["m"] ["m"] (defScope s_count_rooms) := ⟨rfl, rfl, rfl, by decide +kernel, rfl, by decide +kernel, by decide +kernel⟩
theorem ok_count_rooms {f : Addr} {fd : FuncData} (F : Fun K "count_rooms" "count_rooms" s_count_rooms f fd) : FnOk P w K mg base CX0 1 f fd ["m"] spCountR := by
  refine F.ok scCountR (fun vs H Q E h => ?_) (fun cdv A outer s H vs Q E hr h => ?_)
  · obtain ⟨m, rfl, _⟩ := h
    rfl
  · obtain ⟨m, rfl, hm, q⟩ := h
    refine ⟨_, pss_one (ps_ret (pe_op op_mul (pv 0) (pv 0))), ?_⟩
    refine ⟨_, rfl, _, rfl, _, _, rfl, rfl, .inl ⟨by omega, by omega⟩, ?_⟩
    have e : (m : Int) * (m : Int) = ((m * m : Nat) : Int) := by rw [Int.natCast_mul]
    show Q (.int ((m : Int) * (m : Int))) H
    rw [e]
    exact q
/-! ### lists of things in the heap -/
def AllAt {α : Type} (R : Addr → α → Prop) (as : List Addr) (xs : List α) : Prop := as.length = xs.length ∧ ∀ (k : Nat) (x : α), xs[k]? = some x → ∃ a, as[k]? = some a ∧ R a x
theorem AllAt.nil {α : Type} {R : Addr → α → Prop} : AllAt R [] [] := ⟨rfl, fun k x h => by simp at h⟩
theorem AllAt.imp {α : Type} {R R' : Addr → α → Prop} {as : List Addr} {xs : List α} (h : AllAt R as xs) (f : ∀ a x, R a x → R' a x) : AllAt R' as xs :=
  ⟨h.1, fun k p e => let ⟨a, e1, e2⟩ := h.2 k p e; ⟨a, e1, f _ _ e2⟩⟩
theorem AllAt.snoc {α : Type} {R : Addr → α → Prop} {as : List Addr} {xs : List α} {a : Addr} {x : α} (h : AllAt R as xs) (e : R a x) : AllAt R (as ++ [a]) (xs ++ [x]) := by
  refine ⟨by rw [List.length_append, List.length_append, h.1]; rfl, fun k q hq => ?_⟩
  by_cases hk : k < xs.length
  · rw [List.getElem?_append_left hk] at hq
    rw [List.getElem?_append_left (by rw [h.1]; exact hk)]
    exact h.2 k q hq
  · rw [List.getElem?_append_right (by omega)] at hq
    rw [List.getElem?_append_right (by rw [h.1]; omega), h.1]
    have hz : k - xs.length = 0 := by
      cases z : k - xs.length with
      | zero => rfl
      | succ n => rw [z] at hq; simp at hq
    rw [hz] at hq ⊢
    have e2 : x = q := Option.some.inj hq
    subst e2
    exact ⟨a, rfl, e⟩
theorem AllAt.get {α : Type} {R : Addr → α → Prop} {as : List Addr} {xs : List α} {k : Nat} {v : V} (h : AllAt R as xs) (e : (as.map V.ref)[k]? = some v) : ∃ a x, v = .ref a ∧ as[k]? = some a ∧ xs[k]? = some x ∧ R a x := by
  rw [List.getElem?_map] at e
  cases z : as[k]? with
  | none => rw [z] at e; cases e
  | some a =>
    rw [z] at e
    have hk : k < xs.length := by
      rw [← h.1]
      exact (List.getElem?_eq_some_iff.mp z).1
    obtain ⟨b, e1, e2⟩ := h.2 k _ (List.getElem?_eq_getElem hk)
    rw [z] at e1
    have := Option.some.inj e1
    subst this
    exact ⟨a, _, (Option.some.inj e).symm, rfl, List.getElem?_eq_getElem hk, e2⟩
/-- a room: a tuple of its corners -/
def RoomAt (H : Hp) (a : Addr) (ps : List Pl) : Prop := ∃ cs : List Addr, H a = some (.tup (cs.map V.ref)) ∧ PlsAt H cs ps
theorem RoomAt.mono {H H' : Hp} {a : Addr} {ps : List Pl} (h : RoomAt H a ps) (s : Same H H') : RoomAt H' a ps := let ⟨cs, h1, h2⟩ := h; ⟨cs, s _ _ h1, h2.mono s⟩
theorem RoomAt.put {H : Hp} {a : Addr} {ps : List Pl} {l : Addr} {xs : List V} {o : HO} (h : RoomAt H a ps) (e : H l = some (.lst xs)) : RoomAt (upd H l o) a ps := by
  obtain ⟨cs, h1, h2⟩ := h
  exact ⟨cs, by rw [upd_ne (ne_of h1 e (by intro z; cases z))]; exact h1, h2.put e⟩
theorem room_mk {H : Hp} {t1 t2 t3 : Addr} {p1 p2 p3 : Pl} {t : Addr} (h1 : H t1 = some (pT p1)) (h2 : H t2 = some (pT p2)) (h3 : H t3 = some (pT p3)) (h : H t = some (.tup [.ref t1, .ref t2, .ref t3])) : RoomAt H t [p1, p2, p3] :=
  ⟨[t1, t2, t3], h, (((show PlsAt H [] [] from ⟨rfl, fun k p hq => by simp at hq⟩).snoc h1).snoc h2).snoc h3⟩
/-! ### all_rooms -/
def spRooms : Sp := fun vs H Q _ => ∃ m : Nat, vs = [nI m] ∧ m ≤ 9 ∧ ∀ (H' : Hp) (l : Addr) (as : List Addr), Same H H' → H l = none → H' l = some (.lst (as.map V.ref)) → AllAt (RoomAt H') as ((rooms m).map corners) → Q (.ref l) H'
theorem scRooms : FnScope ["m", "found", "j", "i"] ["m"] (defScope s_all_rooms) := ⟨rfl, rfl, rfl, by decide +kernel, rfl, by decide +kernel, by decide +kernel⟩
theorem ok_all_rooms {f : Addr} {fd : FuncData} (F : Fun K "all_rooms" "all_rooms" s_all_rooms f fd) (mr : mg "range" = none) : FnOk P w K mg base CX0 1 f fd ["m"] spRooms := by
  refine F.ok scRooms (fun vs H Q E h => ?_) (fun cdv A outer s H vs Q E hr h => ?_)
  · obtain ⟨m, rfl, _⟩ := h
    rfl
  · obtain ⟨m, rfl, h9, q⟩ := h
    refine ⟨_, pss_cons (ps_set (i := 1) scRooms.nd rfl (.inl rfl) (pe_lst pa_nil))
      (pss_cons (ps_for PassesOwn.never rfl (pi_range1 rfl mr (pa_cons (pv 0) pa_nil)) (pg_name (i := 2) scRooms.nd rfl (.inl rfl))
        (pss_one (ps_for PassesOwn.never rfl (pi_range1 rfl mr (pa_cons (pe_op op_sub (pv 0) (pv 2)) pa_nil)) (pg_name (i := 3) scRooms.nd rfl (.inl rfl))
          (pss_cons (ps_expr (pe_bm PySem.F.plainAttrs_list PySem.F.slot_list_append PySem.F.type_list_append mt_append (pv 1) (pa_cons (pe_tup (pa_cons (pe_tup (pa_cons (pv 3) (pa_cons (pv 2) pa_nil)))
              (pa_cons (pe_tup (pa_cons (pe_op op_add (pv 3) pe_int) (pa_cons (pv 2) pa_nil))) (pa_cons (pe_tup (pa_cons (pv 3) (pa_cons (pe_op op_add (pv 2) pe_int) pa_nil))) pa_nil)))) pa_nil)))
          (pss_one (ps_if (pt_cmpR op_lt (pe_op op_add (pv 3) (pv 2)) (pe_op op_sub (pv 0) pe_int) (nomark _))
            (pss_one (ps_expr (pe_bm PySem.F.plainAttrs_list PySem.F.slot_list_append PySem.F.type_list_append mt_append (pv 1) (pa_cons (pe_tup (pa_cons (pe_tup (pa_cons (pe_op op_add (pv 3) pe_int) (pa_cons (pe_op op_add (pv 2) pe_int) pa_nil)))
              (pa_cons (pe_tup (pa_cons (pv 3) (pa_cons (pe_op op_add (pv 2) pe_int) pa_nil))) (pa_cons (pe_tup (pa_cons (pe_op op_add (pv 3) pe_int) (pa_cons (pv 2) pa_nil))) pa_nil)))) pa_nil)))) pss_nil))))))
      (pss_one (ps_ret (pv 1)))), ?_⟩
    refine ⟨Nat.zero_le _, fun l nl => ?_⟩
    have t1 : ((m : Int)).toNat = m := by omega
    refine ⟨_, rfl, _, rfl, by omega, by omega, for_range (n := (m : Int).toNat) (fun j σ H' => ∃ (v2 v3 : Option V) (as : List Addr), σ = [some (nI m), some (.ref l), v2, v3] ∧ Same H H' ∧ H' l = some (.lst (as.map V.ref)) ∧ AllAt (RoomAt H') as (rRows m j))
      ⟨none, none, [], rfl, same_upd nl, upd_same, .nil⟩ ?_ ?_⟩
    · rintro j σ H1 hj ⟨v2, v3, as, rfl, s1, el, pa⟩
      rw [t1] at hj
      have t2 : (((m : Int) - (0 + (j : Int)))).toNat = m - j := by omega
      refine ⟨_, rfl, _, rfl, _, _, rfl, rfl, _, rfl, by omega, by omega, for_range (n := ((m : Int) - (0 + (j : Int))).toNat) (fun i σ H' => ∃ (v3 : Option V) (as : List Addr), σ = [some (nI m), some (.ref l), some (.int (0 + (j : Int))), v3] ∧ Same H H' ∧ H' l = some (.lst (as.map V.ref)) ∧ AllAt (RoomAt H') as (rPart m j i))
        ⟨v3, as, rfl, s1, el, by rw [rPart_zero]; exact pa⟩ ?_ ?_⟩
      · rintro i σ H2 hi ⟨v3, as, rfl, s2, el, pa⟩
        rw [t2] at hi
        have hlen : as.length ≤ 200 := by
          rw [pa.1]
          exact rPart_len h9 (by omega) (by omega)
        -- the room that points up
        refine ⟨_, rfl, .inl ⟨rfl, _, SqL.of el⟩, _, rfl, _, rfl, by show 2 ≤ sizeLine; decide, fun a1 n1 => ⟨_, rfl, _, _, rfl, rfl, _, rfl, by show 2 ≤ sizeLine; decide, fun a2 n2 => ⟨_, rfl, _, rfl, _, _, rfl, rfl, by show 2 ≤ sizeLine; decide, fun a3 n3 => ⟨by show 3 ≤ sizeLine; decide, fun a4 n4 => ?_⟩⟩⟩⟩
        have e1 : (HO.tup [V.int (0 + (i : Int)), V.int (0 + (j : Int))]) = pT ⟨i, j⟩ := by rw [Int.zero_add, Int.zero_add]
        have e2 : (HO.tup [V.int (0 + (i : Int) + 1), V.int (0 + (j : Int))]) = pT ⟨i + 1, j⟩ := by
          rw [Int.zero_add, Int.zero_add]
          rfl
        have e3 : (HO.tup [V.int (0 + (i : Int)), V.int (0 + (j : Int) + 1)]) = pT ⟨i, j + 1⟩ := by
          rw [Int.zero_add, Int.zero_add]
          rfl
        have e4 : (HO.tup [V.int (0 + (i : Int) + 1), V.int (0 + (j : Int) + 1)]) = pT ⟨i + 1, j + 1⟩ := by
          rw [Int.zero_add, Int.zero_add]
          rfl
        have s3 := same_upd (o := pT ⟨i, j⟩) n1
        have x1 : upd H2 a1 (pT ⟨i, j⟩) a1 = some (pT ⟨i, j⟩) := upd_same
        rw [show upd H2 a1 (HO.tup [V.int (0 + (i : Int)), V.int (0 + (j : Int))]) = upd H2 a1 (pT ⟨i, j⟩) by rw [e1]] at n2 n3 n4 ⊢
        generalize upd H2 a1 (pT ⟨i, j⟩) = H3 at s3 x1 n2 n3 n4 ⊢
        have s4 := same_upd (o := pT ⟨i + 1, j⟩) n2
        have x2 : upd H3 a2 (pT ⟨i + 1, j⟩) a2 = some (pT ⟨i + 1, j⟩) := upd_same
        rw [show upd H3 a2 ((HO.tup [V.int (0 + (i : Int) + 1), V.int (0 + (j : Int))])) = upd H3 a2 (pT ⟨i + 1, j⟩) by rw [e2]] at n3 n4 ⊢
        generalize upd H3 a2 (pT ⟨i + 1, j⟩) = H4 at s4 x2 n3 n4 ⊢
        have s5 := same_upd (o := pT ⟨i, j + 1⟩) n3
        have x3 : upd H4 a3 (pT ⟨i, j + 1⟩) a3 = some (pT ⟨i, j + 1⟩) := upd_same
        rw [show upd H4 a3 ((HO.tup [V.int (0 + (i : Int)), V.int (0 + (j : Int) + 1)])) = upd H4 a3 (pT ⟨i, j + 1⟩) by rw [e3]] at n4 ⊢
        generalize upd H4 a3 (pT ⟨i, j + 1⟩) = H5 at s5 x3 n4 ⊢
        have s6 := same_upd (o := .tup [.ref a1, .ref a2, .ref a3]) n4
        have x4 : upd H5 a4 (.tup [.ref a1, .ref a2, .ref a3]) a4 = some (.tup [.ref a1, .ref a2, .ref a3]) := upd_same
        generalize upd H5 a4 (.tup [.ref a1, .ref a2, .ref a3]) = H6 at s6 x4 ⊢
        have s26 : Same H2 H6 := s3.trans (s4.trans (s5.trans s6))
        have rU : RoomAt H6 a4 (upC i j) := room_mk ((s4.trans (s5.trans s6)) _ _ x1) ((s5.trans s6) _ _ x2) (s6 _ _ x3) x4
        have pa6 := (pa.imp fun a x h => h.mono s26).snoc rU
        refine ⟨l, _, _, rfl, rfl, s26 _ _ el, by rw [List.length_map]; exact small1000 (by omega), ?_⟩
        have s7 : Same H (upd H6 l (.lst (as.map V.ref ++ [.ref a4]))) := same_mut (s2.trans s26) nl
        have pa7 : AllAt (RoomAt (upd H6 l (.lst (as.map V.ref ++ [.ref a4])))) (as ++ [a4]) (rPart m j i ++ [upC i j]) := pa6.imp fun a x h => h.put (s26 _ _ el)
        have el7 : upd H6 l (.lst (as.map V.ref ++ [.ref a4])) l = some (.lst ((as ++ [a4]).map V.ref)) := by
          rw [upd_same, List.map_append]
          rfl
        generalize upd H6 l (.lst (as.map V.ref ++ [.ref a4])) = H7 at s7 pa7 el7 ⊢
        -- if i + j < m - 1
        refine ⟨_, rfl, _, rfl, _, _, rfl, rfl, _, rfl, _, _, rfl, rfl, _, _, rfl, rfl, _, rfl, ite2 (fun z => ?_) (fun z => ?_)⟩
        · have z : 0 + (i : Int) + (0 + (j : Int)) < (m : Int) - 1 := of_decide_eq_true z
          refine ⟨_, rfl, .inl ⟨rfl, _, SqL.of el7⟩, _, rfl, _, _, rfl, rfl, _, rfl, _, _, rfl, rfl, by show 2 ≤ sizeLine; decide, fun b1 k1 => ⟨_, rfl, _, rfl, _, _, rfl, rfl, by show 2 ≤ sizeLine; decide, fun b2 k2 => ⟨_, rfl, _, _, rfl, rfl, _, rfl, by show 2 ≤ sizeLine; decide, fun b3 k3 => ⟨by show 3 ≤ sizeLine; decide, fun b4 k4 => ?_⟩⟩⟩⟩
          have u3 := same_upd (o := pT ⟨i + 1, j + 1⟩) k1
          have y1 : upd H7 b1 (pT ⟨i + 1, j + 1⟩) b1 = some (pT ⟨i + 1, j + 1⟩) := upd_same
          rw [show upd H7 b1 (HO.tup [V.int (0 + (i : Int) + 1), V.int (0 + (j : Int) + 1)]) = upd H7 b1 (pT ⟨i + 1, j + 1⟩) by rw [e4]] at k2 k3 k4 ⊢
          generalize upd H7 b1 (pT ⟨i + 1, j + 1⟩) = G3 at u3 y1 k2 k3 k4 ⊢
          have u4 := same_upd (o := pT ⟨i, j + 1⟩) k2
          have y2 : upd G3 b2 (pT ⟨i, j + 1⟩) b2 = some (pT ⟨i, j + 1⟩) := upd_same
          rw [show upd G3 b2 (HO.tup [V.int (0 + (i : Int)), V.int (0 + (j : Int) + 1)]) = upd G3 b2 (pT ⟨i, j + 1⟩) by rw [e3]] at k3 k4 ⊢
          generalize upd G3 b2 (pT ⟨i, j + 1⟩) = G4 at u4 y2 k3 k4 ⊢
          have u5 := same_upd (o := pT ⟨i + 1, j⟩) k3
          have y3 : upd G4 b3 (pT ⟨i + 1, j⟩) b3 = some (pT ⟨i + 1, j⟩) := upd_same
          rw [show upd G4 b3 (HO.tup [V.int (0 + (i : Int) + 1), V.int (0 + (j : Int))]) = upd G4 b3 (pT ⟨i + 1, j⟩) by rw [e2]] at k4 ⊢
          generalize upd G4 b3 (pT ⟨i + 1, j⟩) = G5 at u5 y3 k4 ⊢
          have u6 := same_upd (o := .tup [.ref b1, .ref b2, .ref b3]) k4
          have y4 : upd G5 b4 (.tup [.ref b1, .ref b2, .ref b3]) b4 = some (.tup [.ref b1, .ref b2, .ref b3]) := upd_same
          generalize upd G5 b4 (.tup [.ref b1, .ref b2, .ref b3]) = G6 at u6 y4 ⊢
          have u26 : Same H7 G6 := u3.trans (u4.trans (u5.trans u6))
          have rD : RoomAt G6 b4 (dnC i j) := room_mk ((u4.trans (u5.trans u6)) _ _ y1) ((u5.trans u6) _ _ y2) (u6 _ _ y3) y4
          have qa6 := (pa7.imp fun a x h => h.mono u26).snoc rD
          refine ⟨l, _, _, rfl, rfl, u26 _ _ el7, by rw [List.length_map, List.length_append, List.length_singleton]; exact small1000 (by omega), ?_⟩
          refine ⟨_, (as ++ [a4]) ++ [b4], rfl, same_mut (s7.trans u26) nl, ?_, ?_⟩
          · rw [upd_same, List.map_append (l₁ := as ++ [a4])]
            rfl
          · have er : rPart m j (i + 1) = (rPart m j i ++ [upC i j]) ++ [dnC i j] := by
              rw [rPart_succ]
              unfold oneC
              rw [if_pos (by omega), List.append_assoc]
              rfl
            rw [er]
            exact qa6.imp fun a x h => h.put (u26 _ _ el7)
        · have z : ¬ 0 + (i : Int) + (0 + (j : Int)) < (m : Int) - 1 := fun y => z (decide_eq_true y)
          refine ⟨_, as ++ [a4], rfl, s7, el7, ?_⟩
          have er : rPart m j (i + 1) = rPart m j i ++ [upC i j] := by
            rw [rPart_succ]
            unfold oneC
            rw [if_neg (by omega)]
          rw [er]
          exact pa7
      · rintro σ H2 ⟨v3, as, rfl, s2, el, pa⟩
        rw [t2, ← rRows_succ] at pa
        exact ⟨_, _, as, rfl, s2, el, pa⟩
    · rintro σ H1 ⟨v2, v3, as, rfl, s1, el, pa⟩
      rw [t1, rRows_all] at pa
      exact ⟨_, rfl, q H1 l as s1 nl el pa⟩
/-! ### all stands as it stood, but at l -/
def SameX (l : Addr) (H H' : Hp) : Prop := ∀ b o, b ≠ l → H b = some o → H' b = some o
theorem SameX.of {l : Addr} {H H' : Hp} (s : Same H H') : SameX l H H' := fun b o _ e => s b o e
theorem SameX.refl (l : Addr) (H : Hp) : SameX l H H := fun _ _ _ e => e
theorem SameX.trans {l : Addr} {H H1 H2 : Hp} (a : SameX l H H1) (b : SameX l H1 H2) : SameX l H H2 := fun c o h e => b c o h (a c o h e)
theorem SameX.put {l : Addr} {H H' : Hp} {o : HO} (s : SameX l H H') : SameX l H (upd H' l o) := fun b u h e => by
  rw [upd_ne h]
  exact s b u h e
theorem SameX.back {l : Addr} {H H1 H' : Hp} (s : Same H H1) (x : SameX l H1 H') (n : H l = none) : Same H H' := fun b o e => x b o (ne_of_none e n) (s b o e)
theorem PlsAt.monoX {l : Addr} {H H' : Hp} {as : List Addr} {ps : List Pl} {xs : List V} (h : PlsAt H as ps) (s : SameX l H H') (e : H l = some (.lst xs)) : PlsAt H' as ps :=
  ⟨h.1, fun k p q => let ⟨a, e1, e2⟩ := h.2 k p q; ⟨a, e1, s _ _ (ne_of e2 e (by intro z; cases z)) e2⟩⟩
theorem RoomAt.monoX {l : Addr} {H H' : Hp} {a : Addr} {ps : List Pl} {xs : List V} (h : RoomAt H a ps) (s : SameX l H H') (e : H l = some (.lst xs)) : RoomAt H' a ps := by
  obtain ⟨cs, h1, h2⟩ := h
  exact ⟨cs, s _ _ (ne_of h1 e (by intro z; cases z)) h1, h2.monoX s e⟩
theorem room_three {H : Hp} {a : Addr} {p q r : Pl} (h : RoomAt H a [p, q, r]) : ∃ x y z, H a = some (.tup [.ref x, .ref y, .ref z]) ∧ H x = some (pT p) ∧ H y = some (pT q) ∧ H z = some (pT r) := by
  obtain ⟨cs, h1, h2⟩ := h
  obtain ⟨x, e1, x1⟩ := h2.2 0 p rfl
  obtain ⟨y, e2, y1⟩ := h2.2 1 q rfl
  obtain ⟨z, e3, z1⟩ := h2.2 2 r rfl
  have hl := h2.1
  match cs, hl with
  | [a1, a2, a3], _ =>
    have q1 : a1 = x := Option.some.inj e1
    have q2 : a2 = y := Option.some.inj e2
    have q3 : a3 = z := Option.some.inj e3
    subst q1 q2 q3
    exact ⟨_, _, _, h1, x1, y1, z1⟩
/-! ### sides_of_points -/
def SideAt (H : Hp) (a : Addr) (s : Sd) : Prop := ∃ x y, H a = some (.tup [.ref x, .ref y]) ∧ H x = some (pT s.1) ∧ H y = some (pT s.2)
theorem SideAt.mono {H H' : Hp} {a : Addr} {s : Sd} (h : SideAt H a s) (e : Same H H') : SideAt H' a s := let ⟨x, y, h1, h2, h3⟩ := h; ⟨x, y, e _ _ h1, e _ _ h2, e _ _ h3⟩
theorem SideAt.monoX {l : Addr} {H H' : Hp} {a : Addr} {s : Sd} {xs : List V} (h : SideAt H a s) (s' : SameX l H H') (e : H l = some (.lst xs)) : SideAt H' a s := by
  obtain ⟨x, y, h1, h2, h3⟩ := h
  exact ⟨x, y, s' _ _ (ne_of h1 e (by intro z; cases z)) h1, s' _ _ (ne_of h2 e (by intro z; cases z)) h2, s' _ _ (ne_of h3 e (by intro z; cases z)) h3⟩
def PtAt (H : Hp) (b : Addr) (ss : List Sd) : Prop := ∃ as : List Addr, H b = some (.lst (as.map V.ref)) ∧ AllAt (SideAt H) as ss
theorem PtAt.mono {H H' : Hp} {a : Addr} {s : List Sd} (h : PtAt H a s) (e : Same H H') : PtAt H' a s := let ⟨as, h1, h2⟩ := h; ⟨as, e _ _ h1, h2.imp fun _ _ z => z.mono e⟩
theorem PtAt.monoX {l : Addr} {H H' : Hp} {a : Addr} {s : List Sd} {xs : List V} (h : PtAt H a s) (n : a ≠ l) (s' : SameX l H H') (e : H l = some (.lst xs)) : PtAt H' a s :=
  let ⟨as, h1, h2⟩ := h; ⟨as, s' _ _ n h1, h2.imp fun _ _ z => z.monoX s' e⟩
def spSides : Sp := fun vs H Q _ => ∃ m : Nat, vs = [nI m] ∧ m ≤ 9 ∧ ∀ (H' : Hp) (l : Addr) (bs : List Addr), Same H H' → H l = none → H' l = some (.lst (bs.map V.ref)) → AllAt (PtAt H') bs (pts m) → Q (.ref l) H'
theorem scSides : FnScope ["m", "found", "room", "i"] ["m"] (defScope s_sides_of_points) := ⟨rfl, rfl, rfl, by decide +kernel, rfl, by decide +kernel, by decide +kernel⟩
theorem ok_sides_of_points {f fR : Addr} {fd fdR : FuncData} (F : Fun K "sides_of_points" "sides_of_points" s_sides_of_points f fd) (FR : Fun K "all_rooms" "all_rooms" s_all_rooms fR fdR) (GR : FnOk P w K mg base CX0 1 fR fdR ["m"] spRooms) (bR : Binds K fdR ["m"] []) (gR : mg "all_rooms" = some (.ref fR)) (mr : mg "range" = none) : FnOk P w K mg base CX0 2 f fd ["m"] spSides := by
  refine F.ok scSides (fun vs H Q E h => ?_) (fun cdv A outer s H vs Q E hr h => ?_)
  · obtain ⟨m, rfl, _⟩ := h
    rfl
  · obtain ⟨m, rfl, h9, q⟩ := h
    have hl9 := rooms_len h9
    have hmm : m * m ≤ 9 * 9 := Nat.mul_le_mul h9 h9
    refine ⟨_, pss_cons (ps_set (i := 1) scSides.nd rfl (.inl rfl) (pe_lst pa_nil))
      (pss_cons (ps_for PassesOwn.never rfl (pi_list (pe_call GR hr rfl gR FR.kp bR .nil pass0 (pa_cons (pv 0) pa_nil))) (pg_name (i := 2) scSides.nd rfl (.inl rfl))
        (pss_one (ps_expr (pe_bm PySem.F.plainAttrs_list PySem.F.slot_list_append PySem.F.type_list_append mt_append (pv 1) (pa_cons (pe_lst
          (pa_cons (pe_tup (pa_cons (pe_ix ix_tup (pv 2) pe_int (fun _ _ => rfl)) (pa_cons (pe_ix ix_tup (pv 2) pe_int (fun _ _ => rfl)) pa_nil)))
          (pa_cons (pe_tup (pa_cons (pe_ix ix_tup (pv 2) pe_int (fun _ _ => rfl)) (pa_cons (pe_ix ix_tup (pv 2) pe_int (fun _ _ => rfl)) pa_nil)))
          (pa_cons (pe_tup (pa_cons (pe_ix ix_tup (pv 2) pe_int (fun _ _ => rfl)) (pa_cons (pe_ix ix_tup (pv 2) pe_int (fun _ _ => rfl)) pa_nil))) pa_nil)))) pa_nil)))))
      (pss_cons (ps_for PassesOwn.never rfl (pi_range1 rfl mr (pa_cons (pv 0) pa_nil)) (pg_name (i := 3) scSides.nd rfl (.inl rfl))
        (pss_one (ps_expr (pe_bm PySem.F.plainAttrs_list PySem.F.slot_list_append PySem.F.type_list_append mt_append (pv 1) (pa_cons (pe_lst (pa_cons (pe_tup
          (pa_cons (pe_tup (pa_cons (pv 3) (pa_cons (pe_op op_sub (pv 0) (pv 3)) pa_nil)))
          (pa_cons (pe_tup (pa_cons (pe_op op_add (pv 3) pe_int) (pa_cons (pe_op op_sub (pe_op op_sub (pv 0) (pv 3)) pe_int) pa_nil))) pa_nil))) pa_nil)) pa_nil)))))
      (pss_one (ps_ret (pv 1))))), ?_⟩
    refine ⟨Nat.zero_le _, fun l nl => ?_⟩
    have e0 : upd H l (.lst []) l = some (.lst []) := upd_same
    have s0 : Same H (upd H l (.lst [])) := same_upd nl
    generalize upd H l (.lst []) = H0 at e0 s0 ⊢
    -- for room in all_rooms(m)
    refine ⟨_, rfl, m, rfl, h9, fun H1 r rs s1 nr er pr => ⟨r, rfl, ⟨_, SqL.of er⟩, for_list (K := K) (a := r) (xs := rs.map V.ref)
      (fun k σ H' => ∃ (v2 : Option V) (bs : List Addr), σ = [some (nI m), some (.ref l), v2, none] ∧ SameX l H1 H' ∧ H' l = some (.lst (bs.map V.ref)) ∧ AllAt (fun b x => b ≠ l ∧ PtAt H' b x) bs (((rooms m).map sides).take k))
      ⟨none, [], rfl, SameX.refl _ _, s1 _ _ e0, .nil⟩ (fun i σ H' _ ⟨_, _, _, sx, _, _⟩ => SqL.of (sx _ _ (ne_of_none e0 nr).symm er)) ?_ ?_⟩⟩
    · rintro k y σ H2 hk ⟨v2, bs, rfl, sx, el, pa⟩
      have e1 : H1 l = some (.lst []) := s1 _ _ e0
      obtain ⟨a, x, rfl, ha, hx, hR⟩ := pr.get hk
      have hR2 := hR.monoX sx e1
      have hkl : k < (rooms m).length := by
        have := (List.getElem?_eq_some_iff.mp hx).1
        rwa [List.length_map] at this
      have hx2 : x = corners ((rooms m)[k]) := by
        rw [List.getElem?_map, List.getElem?_eq_getElem hkl] at hx
        exact (Option.some.inj hx).symm
      have hS : ((rooms m).map sides)[k]? = some (sides ((rooms m)[k])) := by
        rw [List.getElem?_map, List.getElem?_eq_getElem hkl]
        rfl
      obtain ⟨p1, p2, p3, ec⟩ := corners_three ((rooms m)[k])
      have es : sides ((rooms m)[k]) = [(p1, p2), (p2, p3), (p3, p1)] := by
        rw [← sidesC_eq, ec]
        rfl
      rw [ec] at hx2
      subst hx2
      obtain ⟨c1, c2, c3, hA, q1, q2, q3⟩ := room_three hR2
      have zA : ∀ {H'}, Same H2 H' → SqT K H' a [.ref c1, .ref c2, .ref c3] := fun s => SqT.of (s _ _ hA)
      refine ⟨_, rfl, .inl ⟨rfl, _, SqL.of el⟩,
        _, rfl, a, _, _, _, rfl, rfl, zA (Same.refl _), at_nat (j := 0) rfl, _, rfl, a, _, _, _, rfl, rfl, zA (Same.refl _), at_nat (j := 1) rfl, by show 2 ≤ sizeLine; decide, fun d1 n1 => ?_⟩
      have u1 := same_upd (o := .tup [.ref c1, .ref c2]) n1
      have x1 : upd H2 d1 (.tup [.ref c1, .ref c2]) d1 = some (.tup [.ref c1, .ref c2]) := upd_same
      generalize upd H2 d1 (.tup [.ref c1, .ref c2]) = H3 at u1 x1 ⊢
      refine ⟨_, rfl, a, _, _, _, rfl, rfl, zA u1, at_nat (j := 1) rfl, _, rfl, a, _, _, _, rfl, rfl, zA u1, at_nat (j := 2) rfl, by show 2 ≤ sizeLine; decide, fun d2 n2 => ?_⟩
      have u2 := same_upd (o := .tup [.ref c2, .ref c3]) n2
      have x2 : upd H3 d2 (.tup [.ref c2, .ref c3]) d2 = some (.tup [.ref c2, .ref c3]) := upd_same
      generalize upd H3 d2 (.tup [.ref c2, .ref c3]) = H4 at u2 x2 ⊢
      refine ⟨_, rfl, a, _, _, _, rfl, rfl, zA (u1.trans u2), at_nat (j := 2) rfl, _, rfl, a, _, _, _, rfl, rfl, zA (u1.trans u2), at_nat (j := 0) rfl, by show 2 ≤ sizeLine; decide, fun d3 n3 => ?_⟩
      have u3 := same_upd (o := .tup [.ref c3, .ref c1]) n3
      have x3 : upd H4 d3 (.tup [.ref c3, .ref c1]) d3 = some (.tup [.ref c3, .ref c1]) := upd_same
      generalize upd H4 d3 (.tup [.ref c3, .ref c1]) = H5 at u3 x3 ⊢
      refine ⟨by show 3 ≤ sizeLine; decide, fun b nb => ?_⟩
      have u4 := same_upd (o := .lst [.ref d1, .ref d2, .ref d3]) nb
      have x4 : upd H5 b (.lst [.ref d1, .ref d2, .ref d3]) b = some (.lst [.ref d1, .ref d2, .ref d3]) := upd_same
      have nbl : b ≠ l := (ne_of_none ((u1.trans (u2.trans u3)) _ _ el) nb).symm
      generalize upd H5 b (.lst [.ref d1, .ref d2, .ref d3]) = H6 at u4 x4 ⊢
      have u26 : Same H2 H6 := u1.trans (u2.trans (u3.trans u4))
      have hP : PtAt H6 b (sides ((rooms m)[k])) := by
        rw [es]
        refine ⟨[d1, d2, d3], x4, ((AllAt.nil.snoc (a := d1) (x := (p1, p2)) ?_).snoc (a := d2) (x := (p2, p3)) ?_).snoc (a := d3) (x := (p3, p1)) ?_⟩
        · exact ⟨c1, c2, (u2.trans (u3.trans u4)) _ _ x1, u26 _ _ q1, u26 _ _ q2⟩
        · exact ⟨c2, c3, (u3.trans u4) _ _ x2, u26 _ _ q2, u26 _ _ q3⟩
        · exact ⟨c3, c1, u4 _ _ x3, u26 _ _ q3, u26 _ _ q1⟩
      refine ⟨l, _, _, rfl, rfl, u26 _ _ el, ?_, ?_⟩
      · rw [List.length_map, pa.1, List.length_take, List.length_map, hl9]
        exact small1000 (by omega)
      · refine ⟨_, bs ++ [b], rfl, (sx.trans (SameX.of u26)).put, ?_, ?_⟩
        · rw [upd_same, List.map_append]
          rfl
        · rw [take_snoc hS]
          have sp : SameX l H6 (upd H6 l (.lst (bs.map V.ref ++ [.ref b]))) := (SameX.refl l H6).put
          have pa6 : AllAt (fun b x => b ≠ l ∧ PtAt H6 b x) (bs ++ [b]) (((rooms m).map sides).take k ++ [sides ((rooms m)[k])]) := AllAt.snoc (pa.imp fun c x h => ⟨h.1, h.2.mono u26⟩) ⟨nbl, hP⟩
          exact pa6.imp fun c x h => ⟨h.1, h.2.monoX h.1 sp (u26 _ _ el)⟩
    · rintro σ H2 ⟨v2, bs, rfl, sx, el, pa⟩
      rw [List.length_map, pr.1, List.length_map, List.take_of_length_le (by rw [List.length_map]; exact Nat.le_refl _), ← ptsTo_zero] at pa
      have t1 : ((m : Int)).toNat = m := by omega
      have e1 : H1 l = some (.lst []) := s1 _ _ e0
      refine ⟨_, rfl, _, rfl, by omega, by omega, for_range (n := (m : Int).toNat) (fun k σ H' => ∃ (v3 : Option V) (bs : List Addr), σ = [some (nI m), some (.ref l), v2, v3] ∧ SameX l H1 H' ∧ H' l = some (.lst (bs.map V.ref)) ∧ AllAt (fun b x => b ≠ l ∧ PtAt H' b x) bs (ptsTo m k))
        ⟨none, bs, rfl, sx, el, pa⟩ ?_ ?_⟩
      · rintro k σ H2 hk ⟨v3, bs, rfl, sx, el, pa⟩
        rw [t1] at hk
        refine ⟨_, rfl, .inl ⟨rfl, _, SqL.of el⟩, _, rfl, _, rfl, _, rfl, _, _, rfl, rfl, by show 2 ≤ sizeLine; decide, fun c1 n1 => ?_⟩
        have e2 : (HO.tup [V.int (0 + (k : Int)), V.int ((m : Int) - (0 + (k : Int)))]) = pT ⟨k, m - k⟩ := by
          show HO.tup [V.int (0 + (k : Int)), V.int ((m : Int) - (0 + (k : Int)))] = HO.tup [V.int (k : Int), V.int ((m - k : Nat) : Int)]
          rw [Int.zero_add, show ((m - k : Nat) : Int) = (m : Int) - (k : Int) by omega]
        have e3 : (HO.tup [V.int (0 + (k : Int) + 1), V.int ((m : Int) - (0 + (k : Int)) - 1)]) = pT ⟨k + 1, m - k - 1⟩ := by
          show HO.tup [V.int (0 + (k : Int) + 1), V.int ((m : Int) - (0 + (k : Int)) - 1)] = HO.tup [V.int ((k + 1 : Nat) : Int), V.int ((m - k - 1 : Nat) : Int)]
          rw [Int.zero_add, show ((m - k - 1 : Nat) : Int) = (m : Int) - (k : Int) - 1 by omega]
          rfl
        have u1 := same_upd (o := pT ⟨k, m - k⟩) n1
        have x1 : upd H2 c1 (pT ⟨k, m - k⟩) c1 = some (pT ⟨k, m - k⟩) := upd_same
        refine ⟨_, rfl, _, _, rfl, rfl, _, rfl, _, rfl, _, _, rfl, rfl, _, _, rfl, rfl, by show 2 ≤ sizeLine; decide, fun c2 n2 => ?_⟩
        rw [show upd H2 c1 (HO.tup [V.int (0 + (k : Int)), V.int ((m : Int) - (0 + (k : Int)))]) = upd H2 c1 (pT ⟨k, m - k⟩) by rw [e2]] at n2 ⊢
        generalize upd H2 c1 (pT ⟨k, m - k⟩) = H3 at u1 x1 n2 ⊢
        have u2 := same_upd (o := pT ⟨k + 1, m - k - 1⟩) n2
        have x2 : upd H3 c2 (pT ⟨k + 1, m - k - 1⟩) c2 = some (pT ⟨k + 1, m - k - 1⟩) := upd_same
        refine ⟨by show 2 ≤ sizeLine; decide, fun d nd => ?_⟩
        rw [show upd H3 c2 (HO.tup [V.int (0 + (k : Int) + 1), V.int ((m : Int) - (0 + (k : Int)) - 1)]) = upd H3 c2 (pT ⟨k + 1, m - k - 1⟩) by rw [e3]] at nd ⊢
        generalize upd H3 c2 (pT ⟨k + 1, m - k - 1⟩) = H4 at u2 x2 nd ⊢
        have u3 := same_upd (o := .tup [.ref c1, .ref c2]) nd
        have x3 : upd H4 d (.tup [.ref c1, .ref c2]) d = some (.tup [.ref c1, .ref c2]) := upd_same
        generalize upd H4 d (.tup [.ref c1, .ref c2]) = H5 at u3 x3 ⊢
        refine ⟨by show 1 ≤ sizeLine; decide, fun b nb => ?_⟩
        have u4 := same_upd (o := .lst [.ref d]) nb
        have x4 : upd H5 b (.lst [.ref d]) b = some (.lst [.ref d]) := upd_same
        have nbl : b ≠ l := (ne_of_none ((u1.trans (u2.trans u3)) _ _ el) nb).symm
        generalize upd H5 b (.lst [.ref d]) = H6 at u4 x4 ⊢
        have u26 : Same H2 H6 := u1.trans (u2.trans (u3.trans u4))
        have hP : PtAt H6 b (outS m k) := ⟨[d], x4, AllAt.nil.snoc (a := d) (x := ((⟨k, m - k⟩ : Pl), (⟨k + 1, m - k - 1⟩ : Pl))) ⟨c1, c2, u4 _ _ x3, (u2.trans (u3.trans u4)) _ _ x1, (u3.trans u4) _ _ x2⟩⟩
        refine ⟨l, _, _, rfl, rfl, u26 _ _ el, ?_, ?_⟩
        · rw [List.length_map, pa.1]
          unfold ptsTo
          rw [List.length_append, List.length_map, List.length_map, List.length_range, hl9]
          exact small1000 (by omega)
        · refine ⟨_, bs ++ [b], rfl, (sx.trans (SameX.of u26)).put, ?_, ?_⟩
          · rw [upd_same, List.map_append]
            rfl
          · rw [ptsTo_succ]
            have sp : SameX l H6 (upd H6 l (.lst (bs.map V.ref ++ [.ref b]))) := (SameX.refl l H6).put
            have pa6 : AllAt (fun b x => b ≠ l ∧ PtAt H6 b x) (bs ++ [b]) (ptsTo m k ++ [outS m k]) := AllAt.snoc (pa.imp fun c x h => ⟨h.1, h.2.mono u26⟩) ⟨nbl, hP⟩
            exact pa6.imp fun c x h => ⟨h.1, h.2.monoX h.1 sp (u26 _ _ el)⟩
      · rintro σ H2 ⟨v3, bs, rfl, sx, el, pa⟩
        rw [t1, ptsTo_all] at pa
        exact ⟨_, rfl, q H2 l bs (SameX.back (s0.trans s1) sx nl) nl el (pa.imp fun c x h => h.2)⟩
/-! ### a dict whose keys are sides -/
def keyP (p : Pl) : NestedKey := .tup [.num (p.i : Int), .num (p.j : Int)]
def keyOf (s : Sd) : NestedKey := .tup [keyP s.1, keyP s.2]
theorem keyP_inj {p q : Pl} (h : keyP p = keyP q) : p = q := by
  obtain ⟨a, b⟩ := p
  obtain ⟨c, d⟩ := q
  have h1 := NestedKey.tup.inj h
  injection h1 with h2 h3
  injection h3 with h3 _
  have e1 : (a : Int) = (c : Int) := NestedKey.num.inj h2
  have e2 : (b : Int) = (d : Int) := NestedKey.num.inj h3
  rw [show a = c by omega, show b = d by omega]
theorem keyOf_inj {s t : Sd} (h : keyOf s = keyOf t) : s = t := by
  have h1 := NestedKey.tup.inj h
  injection h1 with h2 h3
  injection h3 with h3 _
  exact Prod.ext (keyP_inj h2) (keyP_inj h3)
section
variable {H : Hp} {h : Heap}
theorem pl_is {p : Pl} {a : Addr} (ok : HOk P w H h) (e : H a = some (pT p)) : NestedIs h (keyP p) (.ref a) := by
  obtain ⟨_, its, r, o, g1, g2, n, g3⟩ := (show ObjOk P w H h a (.tup [nI p.i, nI p.j]) from ok a _ e)
  cases r with
  | cons r1 r =>
    cases r with
    | cons r2 r =>
      cases r
      obtain ⟨t1, rfl⟩ := r1
      obtain ⟨t2, rfl⟩ := r2
      exact .tup g1 g2 g3 (.cons (.int _ _) (.cons (.int _ _) .nil))
theorem side_is {s : Sd} {b : Addr} (ok : HOk P w H h) (e : SideAt H b s) : (nestedKind P w).is h (keyOf s) b := by
  obtain ⟨x, y, e1, e2, e3⟩ := e
  refine ⟨?_, by simp [keyOf, keyP, NestedKey.depth, NestedKey.depthAll]⟩
  obtain ⟨_, its, r, o, g1, g2, n, g3⟩ := (show ObjOk P w H h b (.tup [.ref x, .ref y]) from ok b _ e1)
  cases r with
  | cons r1 r =>
    cases r with
    | cons r2 r =>
      cases r
      cases r1
      cases r2
      exact .tup g1 g2 g3 (.cons (pl_is ok e2) (.cons (pl_is ok e3) .nil))
/-- entries told by the side, where its tuple stands, the value; as the dict itself holds them -/
abbrev DRel : List (Sd × Addr × V) → List (NestedKey × Addr × Value) → Prop := Paired fun p q => keyOf p.1 = q.1 ∧ p.2.1 = q.2.1 ∧ RelV p.2.2 q.2.2
def dPhi (P : Program) (w : World) (d : Addr) (kas : List (Sd × Addr × V)) (h : Heap) : Prop :=
  kas.length ≤ sizeLine ∧ ∃ xs : List (NestedKey × Addr × Value), DRel kas xs ∧ ∃ o es ep, h.get? d = some o ∧ o.ExactDict ∧ o.data = .dict es ep ∧ es.toList = xs.map (entryOfKey (nestedKind P w)) ∧ (xs.map (·.1)).Nodup
def sD (P : Program) (w : World) (d : Addr) (kas : List (Sd × Addr × V)) : HO := .ext (dPhi P w d kas)
theorem sD_ok {kas : List (Sd × Addr × V)} {d : Addr} (x : dPhi P w d kas h) : ObjOk P w H h d (sD P w d kas) :=
  ⟨x, let ⟨_, _, _, o, _, _, ho, _⟩ := x; ⟨o, ho⟩, fun _ _ ⟨z, xs, r, o, es, ep, ho, q⟩ e => ⟨z, xs, r, o, es, ep, e o ho, q⟩⟩
/-- the sides stand -/
def DKeys (H : Hp) (kas : List (Sd × Addr × V)) : Prop := ∀ q ∈ kas, SideAt H q.2.1 q.1
theorem drel_to {kas : List (Sd × Addr × V)} {xs : List (NestedKey × Addr × Value)} (r : DRel kas xs) : ∀ x ∈ xs, ∃ q ∈ kas, keyOf q.1 = x.1 ∧ q.2.1 = x.2.1 := by
  induction r with
  | nil => intro x hx; cases hx
  | cons e _ ih =>
    intro x hx
    rcases List.mem_cons.mp hx with rfl | hx
    · exact ⟨_, List.mem_cons_self, e.1, e.2.1⟩
    · obtain ⟨y, hy, z⟩ := ih x hx
      exact ⟨y, List.mem_cons_of_mem _ hy, z⟩
theorem drel_of {kas : List (Sd × Addr × V)} {xs : List (NestedKey × Addr × Value)} (r : DRel kas xs) : ∀ q ∈ kas, ∃ x ∈ xs, keyOf q.1 = x.1 ∧ RelV q.2.2 x.2.2 := by
  induction r with
  | nil => intro x hx; cases hx
  | cons e _ ih =>
    intro x hx
    rcases List.mem_cons.mp hx with rfl | hx
    · exact ⟨_, List.mem_cons_self, e.1, e.2.2⟩
    · obtain ⟨y, hy, z⟩ := ih x hx
      exact ⟨y, List.mem_cons_of_mem _ hy, z⟩
theorem sD_is {kas : List (Sd × Addr × V)} {d : Addr} (ok : HOk P w H h) (e : H d = some (sD P w d kas)) (hk : DKeys H kas) : kas.length ≤ sizeLine ∧ ∃ xs, DRel kas xs ∧ h.DictOfH (nestedKind P w) d xs := by
  obtain ⟨⟨z, xs, r, o, es, ep, h1, h2, h3, h4, h5⟩, _⟩ := (show ObjOk P w H h d (.ext (dPhi P w d kas)) from ok d _ e)
  refine ⟨z, xs, r, o, es, ep, h1, h2, h3, h4, fun x hx => ?_, h5⟩
  obtain ⟨q, hq, e1, e2⟩ := drel_to r x hx
  rw [← e1, ← e2]
  exact side_is ok (hk q hq)
end
section
variable {X : Cx} {o i value : Expr} {pos pos' : Pos} {td ty tv : TE}
/-- {} -/
def tSNew (P : Program) (w : World) : TE := fun _ H Q => ∀ p, H p = none → Q (.ref p) (upd H p (sD P w p []))
theorem pe_snew : PE X (.Dict [] [] pos) (tSNew X.prog X.w) := by
  refine ⟨fun pins s σ H Q I h => wpAny_Dict_empty ⟨.ref s.heap.objs.size, upd H s.heap.objs.size (sD X.prog X.w s.heap.objs.size []), ?_, rfl, h _ (I.hok.fresh (Nat.le_refl _))⟩⟩
  exact I.laid (t' := s.toks) (fun _ _ q => Heap.get?_push_of_some _ q) (Nat.le_refl _) (sD_ok ⟨Nat.zero_le _, [], .nil, _, #[], 0, Heap.get?_push_size _ rfl, ⟨rfl, rfl, rfl⟩, rfl, rfl, List.nodup_nil⟩)
/-- d[side], there -/
def tSGet (P : Program) (w : World) (td ty : TE) : TE := fun σ H Q => td σ H fun x H1 => ty σ H1 fun y H2 => ∃ d kas k b v c, x = .ref d ∧ y = .ref b ∧ H2 d = some (sD P w d kas) ∧ SideAt H2 b k ∧ DKeys H2 kas ∧ (k, c, v) ∈ kas ∧ Q v H2
theorem pe_sget (hu : X.A.units + 9 < cLine) (ho : PE X o td) (hi : PE X i ty) (hs : NoSl i) : PE X (.Subscript o i pos) (tSGet X.prog X.w td ty) := by
  refine ⟨fun pins s σ H Q I h => subD_of PySem.F.slot_dict_getitem.lookup hs (thn (ho.run pins s σ H _ I h) fun u s1 ⟨x, H1, I1, rx, q1⟩ => thn (hi.run pins s1 σ H1 _ I1 q1) fun iv s2 ⟨y, H2, I2, ry, d, kas, k, b, v, c, ex, ey, hd, hb, hks, hm, q2⟩ => ?_)⟩
  subst ex ey
  cases rx
  cases ry
  obtain ⟨_, xs, r, dd⟩ := sD_is I2.hok hd hks
  obtain ⟨x, hx, e1, rv⟩ := drel_of r _ hm
  obtain ⟨j, hj⟩ := List.mem_iff_getElem?.mp hx
  have hat : atKey xs (keyOf k) = some x.2 := by
    obtain ⟨_, _, _, _, _, _, _, _, nd⟩ := id dd
    have e1 : keyOf k = x.1 := e1
    rw [e1]
    exact atKey_of_get nd (i := j) hj
  exact ⟨dd.typeIs, wpAny_getItem_heap (knd := nestedKind X.prog X.w) (show X.A.units + 1 + 8 < cLine by omega) (side_is I2.hok hb) dd hat ⟨v, H2, I2.tok _, rv, q2⟩⟩
/-- d[side] = v, the side new -/
def sSPut (P : Program) (w : World) (td ty tv : TE) : TS := fun D σ H => tv σ H fun v H1 => td σ H1 fun x H2 => ty σ H2 fun y H3 => ∃ d kas k b, x = .ref d ∧ y = .ref b ∧ H3 d = some (sD P w d kas) ∧ SideAt H3 b k ∧ DKeys H3 kas ∧
  (∀ q ∈ kas, q.1 ≠ k) ∧ kas.length < sizeLine ∧ D.nx σ (upd H3 d (sD P w d (kas ++ [(k, b, v)])))
theorem ps_sput (hu : X.A.units + 9 < cLine) (ho : PE X o td) (hi : PE X i ty) (hv : PE X value tv) (hs : swapsWith value (some (.Subscript o i pos')) pos.line X.env = pure false) : PS X (.Assign [.Subscript o i pos'] value pos) (sSPut X.prog X.w td ty tv) := by
  refine ⟨fun pins s σ H D I h => wpAny_Assign_Subscript (thn (hv.run pins s σ H _ I h) fun r s1 ⟨v, H1, I1, rv, q1⟩ => thn (ho.run pins s1 σ H1 _ I1 q1) fun u s2 ⟨x, H2, I2, rx, q2⟩ => thn (hi.run pins s2 σ H2 _ I2 q2) fun iv s3 ⟨y, H3, I3, ry, d, kas, k, b, ex, ey, hd, hb, hks, hn, hl, q3⟩ => ?_) hs⟩
  subst ex ey
  cases rx
  cases ry
  obtain ⟨z, xs, rel, dd⟩ := sD_is I3.hok hd hks
  have hno : atKey xs (keyOf k) = none := atKey_none_of_get fun j p hj =>
    let ⟨q, hq, e1, _⟩ := drel_to rel _ (List.mem_of_getElem? hj)
    hn q hq (keyOf_inj e1)
  refine wpAny_setItem_heap (knd := nestedKind X.prog X.w) (hsz := by rw [← Paired.length rel]; exact z) (show X.A.units + 1 + 8 < cLine by omega) (side_is I3.hok hb) dd fun h' dd' hs' => ?_
  rw [storedH_new hno] at dd'
  obtain ⟨q, es, ep, hq, h2, h3, h4, _, h5⟩ := dd'
  exact ⟨σ, _, d_write I3 (by rw [hd]; exact True.intro) hs' ⟨q, hq⟩ (sD_ok ⟨by rw [List.length_append, List.length_singleton]; omega, _, Paired.snoc rel ⟨rfl, rfl, rv⟩, q, es, ep, hq, h2, h3, h4, h5⟩), q3⟩
end
/-! ### points_by_side -/
theorem DKeys.put {H : Hp} {kas ks2 : List (Sd × Addr × V)} {d : Addr} {o : HO} (h : DKeys H kas) (e : H d = some (sD P w d ks2)) : DKeys (upd H d o) kas := fun q hq => by
  obtain ⟨x, y, h1, h2, h3⟩ := h q hq
  exact ⟨x, y, by rw [upd_ne (ne_of h1 e (by intro z; cases z))]; exact h1, by rw [upd_ne (ne_of h2 e (by intro z; cases z))]; exact h2, by rw [upd_ne (ne_of h3 e (by intro z; cases z))]; exact h3⟩
theorem DKeys.same {H H' : Hp} {kas : List (Sd × Addr × V)} (h : DKeys H kas) (s : Same H H') : DKeys H' kas := fun q hq => (h q hq).mono s
def Owners (m : Nat) (kas : List (Sd × Addr × V)) : Prop := ∀ v s, v < (pts m).length → s ∈ (pts m).getD v [] → ∃ c, (s, c, nI v) ∈ kas
theorem pts_split {m k i : Nat} {ss : List Sd} {s : Sd} (h1 : (pts m)[k]? = some ss) (h2 : ss[i]? = some s) : ∃ rest, flat m = (((pts m).take k).flatten ++ ss.take i) ++ s :: rest := by
  obtain ⟨hk, e1⟩ := List.getElem?_eq_some_iff.mp h1
  obtain ⟨hi, e2⟩ := List.getElem?_eq_some_iff.mp h2
  refine ⟨ss.drop (i + 1) ++ ((pts m).drop (k + 1)).flatten, ?_⟩
  unfold flat
  have a1 : pts m = (pts m).take k ++ ss :: (pts m).drop (k + 1) := by
    rw [← e1, List.getElem_cons_drop, List.take_append_drop]
  have a2 : ss = ss.take i ++ s :: ss.drop (i + 1) := by
    rw [← e2, List.getElem_cons_drop, List.take_append_drop]
  conv => lhs; rw [a1]
  rw [List.flatten_append, List.flatten_cons]
  conv => lhs; rw [a2]
  simp only [List.append_assoc, List.cons_append]
theorem new_side {m k i : Nat} {ss : List Sd} {s : Sd} (h9 : m ≤ 9) (h1 : (pts m)[k]? = some ss) (h2 : ss[i]? = some s) : s ∉ ((pts m).take k).flatten ++ ss.take i := by
  obtain ⟨rest, e⟩ := pts_split h1 h2
  have nd := flat_nodup h9
  rw [e] at nd
  intro hm
  have := (List.nodup_append.mp nd).2.2 s hm s List.mem_cons_self
  exact this rfl
theorem flat_len {m k i : Nat} {ss : List Sd} {s : Sd} (h1 : (pts m)[k]? = some ss) (h2 : ss[i]? = some s) : (((pts m).take k).flatten ++ ss.take i).length < (flat m).length := by
  obtain ⟨rest, e⟩ := pts_split h1 h2
  rw [e, List.length_append (bs := s :: rest), List.length_cons]
  omega
theorem flat_le : ∀ m, m < 10 → (flat m).length ≤ 300 := by decide +kernel
def spOwners (P : Program) (w : World) : Sp := fun vs H Q _ => ∃ (m : Nat) (l : Addr) (bs : List Addr), vs = [.ref l] ∧ m ≤ 9 ∧ H l = some (.lst (bs.map V.ref)) ∧ AllAt (PtAt H) bs (pts m) ∧
  ∀ (H' : Hp) (d : Addr) (kas : List (Sd × Addr × V)), Same H H' → H d = none → H' d = some (sD P w d kas) → DKeys H' kas → Owners m kas → Q (.ref d) H'
theorem scOwners : FnScope ["sides", "found", "point", "side"] ["sides"] (defScope s_points_by_side) := ⟨rfl, rfl, rfl, by decide +kernel, rfl, by decide +kernel, by decide +kernel⟩
theorem ok_points_by_side {f : Addr} {fd : FuncData} (F : Fun K "points_by_side" "points_by_side" s_points_by_side f fd) (ml : mg "len" = none) (mr : mg "range" = none) : FnOk P w K mg base CX0 1 f fd ["sides"] (spOwners P w) := by
  refine F.ok scOwners (fun vs H Q E h => ?_) (fun cdv A outer s H vs Q E hr h => ?_)
  · obtain ⟨m, l, bs, rfl, _⟩ := h
    rfl
  · obtain ⟨m, l, bs, rfl, h9, hl, pa, q⟩ := h
    refine ⟨_, pss_cons (ps_set (i := 1) scOwners.nd rfl (.inl rfl) pe_snew)
      (pss_cons (ps_for PassesOwn.never rfl (pi_range1 rfl mr (pa_cons (pe_callB call_len_seq (by rfl) ml PySem.boot_len (pa_cons (pv 0) pa_nil)) pa_nil)) (pg_name (i := 2) scOwners.nd rfl (.inl rfl))
        (pss_one (ps_for PassesOwn.never rfl (pi_list (pe_ix ix_list (pv 0) (pv 2) (fun _ _ => rfl))) (pg_name (i := 3) scOwners.nd rfl (.inl rfl))
          (pss_one (ps_sput (Nat.lt_of_le_of_lt (Nat.add_le_add_left (by decide) _) hr.units) (pv 1) (pv 3) (pv 2) rfl)))))
      (pss_one (ps_ret (pv 1)))), ?_⟩
    intro d nd
    have ed : upd H d (sD P w d []) d = some (sD P w d []) := upd_same
    have s0 : Same H (upd H d (sD P w d [])) := same_upd nd
    have hp9 := pts_len h9
    have hmm : m * m ≤ 9 * 9 := Nat.mul_le_mul h9 h9
    have hbl : (bs.map V.ref).length = m * m + m := by rw [List.length_map, pa.1, hp9]
    have t1 : (((bs.map V.ref).length : Int)).toNat = m * m + m := by rw [hbl]; omega
    refine ⟨_, rfl, l, _, rfl, .inl (SqL.of (s0 _ _ hl)), _, rfl, by omega, by omega, for_range (n := (((bs.map V.ref).length : Int)).toNat)
      (fun k σ H' => ∃ (v2 v3 : Option V) (kas : List (Sd × Addr × V)), σ = [some (.ref l), some (.ref d), v2, v3] ∧ Same H H' ∧ H' d = some (sD P w d kas) ∧ DKeys H' kas ∧ kas.map (·.1) = ((pts m).take k).flatten ∧ (∀ v s, v < k → s ∈ (pts m).getD v [] → ∃ c, (s, c, nI v) ∈ kas))
      ⟨none, none, [], rfl, s0, ed, (fun q hq => by cases hq), rfl, fun v s hv _ => absurd hv (Nat.not_lt_zero _)⟩ ?_ ?_⟩
    · rintro k σ H1 hk ⟨v2, v3, kas, rfl, s1, ed, nk, ek, ow⟩
      rw [t1] at hk
      have hk2 : k < (pts m).length := by rw [hp9]; exact hk
      have eS : (pts m)[k]? = some (pts m)[k] := List.getElem?_eq_getElem hk2
      have gS : (pts m).getD k [] = (pts m)[k] := by
        rw [List.getD_eq_getElem?_getD, eS]
        rfl
      generalize (pts m)[k] = ss at eS gS
      obtain ⟨b, hb, as, hb2, hs⟩ := pa.2 k ss eS
      refine ⟨_, rfl, _, rfl, l, _, _, .ref b, rfl, rfl, SqL.of (s1 _ _ hl), at_of (j := k) (by omega) (by rw [List.getElem?_map, hb]; rfl), b, rfl, ⟨_, SqL.of (s1 _ _ hb2)⟩, for_list (K := K) (a := b) (xs := as.map V.ref)
        (fun i σ H' => ∃ (v3 : Option V) (kas : List (Sd × Addr × V)), σ = [some (.ref l), some (.ref d), some (.int (0 + (k : Int))), v3] ∧ Same H H' ∧ H' d = some (sD P w d kas) ∧ DKeys H' kas ∧ kas.map (·.1) = ((pts m).take k).flatten ++ ss.take i ∧ (∀ v s, v < k → s ∈ (pts m).getD v [] → ∃ c, (s, c, nI v) ∈ kas) ∧ (∀ s ∈ ss.take i, ∃ c, (s, c, nI k) ∈ kas))
        ⟨v3, kas, rfl, s1, ed, nk, by rw [List.take_zero, List.append_nil]; exact ek, ow, fun s hs => by rw [List.take_zero] at hs; cases hs⟩ (fun i σ H' _ ⟨_, _, _, s2, _⟩ => SqL.of (s2 _ _ hb2)) ?_ ?_⟩
      · rintro i y σ H2 hi ⟨v3, kas, rfl, s2, ed, nk, ek, ow, ow2⟩
        obtain ⟨a, x, rfl, ha, hx, hR⟩ := hs.get hi
        have kx := hR.mono s2
        have hnew : ∀ q ∈ kas, q.1 ≠ x := by
          intro q hq e
          have hm : q.1 ∈ kas.map (·.1) := List.mem_map.mpr ⟨q, hq, rfl⟩
          rw [ek, e] at hm
          exact new_side h9 eS hx hm
        have hlen : kas.length < sizeLine := by
          have e1 : kas.length = (((pts m).take k).flatten ++ ss.take i).length := by
            rw [← List.length_map (f := fun q : Sd × Addr × V => q.1), ek]
          have e2 := flat_len eS hx
          have e3 := flat_le m (by omega)
          exact small1000 (by omega)
        refine ⟨_, rfl, _, rfl, _, rfl, d, kas, x, a, rfl, rfl, ed, kx, nk, hnew, hlen, ?_⟩
        refine ⟨_, kas ++ [(x, a, .int (0 + (k : Int)))], rfl, same_mut s2 nd, upd_same, ?_, ?_, ?_, ?_⟩
        · have n2 : DKeys H2 (kas ++ [(x, a, V.int (0 + (k : Int)))]) := fun q hq => by
            rcases List.mem_append.mp hq with hq | hq
            · exact nk q hq
            · have : q = (x, a, V.int (0 + (k : Int))) := by simpa using hq
              subst this
              exact kx
          exact n2.put ed
        · rw [List.map_append, ek, take_snoc hx, ← List.append_assoc]
          rfl
        · intro v s hv hs
          obtain ⟨c, hc⟩ := ow v s hv hs
          exact ⟨c, List.mem_append_left _ hc⟩
        · intro s hs
          rw [take_snoc hx] at hs
          rcases List.mem_append.mp hs with hs | hs
          · obtain ⟨c, hc⟩ := ow2 s hs
            exact ⟨c, List.mem_append_left _ hc⟩
          · have : s = x := by simpa using hs
            subst this
            refine ⟨a, List.mem_append_right _ ?_⟩
            rw [Int.zero_add]
            exact List.mem_singleton.mpr rfl
      · rintro σ H2 ⟨v3, kas, rfl, s2, ed, nk, ek, ow, ow2⟩
        rw [List.length_map, hs.1, List.take_length] at ek ow2
        refine ⟨_, _, kas, rfl, s2, ed, nk, ?_, ?_⟩
        · rw [ek, take_snoc eS, List.flatten_append]
          simp only [List.flatten_cons, List.flatten_nil, List.append_nil]
        · intro v s hv hs
          by_cases e : v = k
          · subst e
            rw [gS] at hs
            exact ow2 s hs
          · exact ow v s (by omega) hs
    · rintro σ H1 ⟨v2, v3, kas, rfl, s1, ed, nk, ek, ow⟩
      rw [t1] at ow
      exact ⟨_, rfl, q H1 d kas s1 nd ed nk fun v s hv hs => ow v s (by rw [hp9] at hv; exact hv) hs⟩
/-! ### place_index -/
def spIndex : Sp := fun vs H Q _ => ∃ (m : Nat) (a : Addr) (p : Pl), vs = [nI m, .ref a] ∧ m ≤ 9 ∧ p.i + p.j ≤ m ∧ H a = some (pT p) ∧ Q (nI (noOf m p)) H
theorem scIndex : FnScope ["m", "place", "j"] ["m", "place"] (defScope s_place_index) := ⟨rfl, rfl, rfl, by decide +kernel, rfl, by decide +kernel, by decide +kernel⟩
theorem ok_place_index {f : Addr} {fd : FuncData} (F : Fun K "place_index" "place_index" s_place_index f fd) : FnOk P w K mg base CX0 1 f fd ["m", "place"] spIndex := by
  refine F.ok scIndex (fun vs H Q E h => ?_) (fun cdv A outer s H vs Q E hr h => ?_)
  · obtain ⟨m, a, p, rfl, _⟩ := h
    rfl
  · obtain ⟨m, a, p, rfl, hm, hp, ha, q⟩ := h
    refine ⟨_, pss_cons (ps_set (i := 2) scIndex.nd rfl (.inl rfl) (pe_ix ix_tup (pv 1) pe_int (fun _ _ => rfl)))
      (pss_one (ps_ret (pe_op op_add (pe_op op_sub (pe_op op_mul (pv 2) (pe_op op_add (pv 0) pe_int)) (pe_op op_fdiv (pe_op op_mul (pv 2) (pe_op op_sub (pv 2) pe_int)) pe_int)) (pe_ix ix_tup (pv 1) pe_int (fun _ _ => rfl))))), ?_⟩
    refine ⟨_, rfl, a, _, _, nI p.j, rfl, rfl, SqT.of ha, at_nat (j := 1) rfl, ?_⟩
    refine ⟨_, rfl, _, rfl, _, _, rfl, rfl, _, _, rfl, rfl, .inl ⟨by omega, by omega⟩, _, rfl, _, rfl, _, _, rfl, rfl, _, _, rfl, rfl, .inl ⟨by omega, by omega⟩, _, _, rfl, rfl, ⟨by decide, by decide⟩, _, _, rfl, rfl,
      _, rfl, a, _, _, nI p.i, rfl, rfl, SqT.of ha, at_nat (j := 0) rfl, _, _, rfl, rfl, ?_⟩
    show Q (.int ((p.j : Int) * ((m : Int) + 1) - (p.j : Int) * ((p.j : Int) - 1) / 2 + (p.i : Int))) H
    rw [ix_int hm hp]
    exact q
/-! ### is_door_out -/
def spDoor (K : PySem.W.Frag) : Sp := fun vs H Q _ => ∃ (m : Nat) (a b : Addr) (c : List Nat) (s : Sd), vs = [nI m, .ref a, .ref b] ∧ m ≤ 9 ∧ SqL K H a (lI c) ∧ c.length = cnt m ∧ SideAt H b s ∧ s.1.i + s.1.j ≤ m ∧ s.2.i + s.2.j ≤ m ∧ Q (.bl (dOut m c s)) H
theorem scDoor : FnScope ["m", "colours", "side"] ["m", "colours", "side"] (defScope s_is_door_out) := ⟨rfl, rfl, rfl, by decide +kernel, rfl, by decide +kernel, by decide +kernel⟩
theorem ok_is_door_out {f fI : Addr} {fd fdI : FuncData} (F : Fun K "is_door_out" "is_door_out" s_is_door_out f fd) (FI : Fun K "place_index" "place_index" s_place_index fI fdI)
    (GI : FnOk P w K mg base CX0 1 fI fdI ["m", "place"] spIndex) (bI : Binds K fdI ["m", "place"] []) (gI : mg "place_index" = some (.ref fI)) : FnOk P w K mg base CX0 2 f fd ["m", "colours", "side"] (spDoor K) := by
  refine F.ok scDoor (fun vs H Q E h => ?_) (fun cdv A outer s H vs Q E hr h => ?_)
  · obtain ⟨m, a, b, c, sd, rfl, _⟩ := h
    rfl
  · obtain ⟨m, a, b, c, sd, rfl, h9, ha, hc, ⟨x, y, hb, hx, hy⟩, p1, p2, q⟩ := h
    refine ⟨_, pss_one (ps_ret (pe_and (pe_cmp (pc_eqI (pe_ix ix_list (pv 1) (pe_call GI hr rfl gI FI.kp bI .nil pass0 (pa_cons (pv 0) (pa_cons (pe_ix ix_tup (pv 2) pe_int (fun _ _ => rfl)) pa_nil))) (fun _ _ => rfl)) pe_int) rfl)
      (pe_one (pe_cmp (pc_eqI (pe_ix ix_list (pv 1) (pe_call GI hr rfl gI FI.kp bI .nil pass0 (pa_cons (pv 0) (pa_cons (pe_ix ix_tup (pv 2) pe_int (fun _ _ => rfl)) pa_nil))) (fun _ _ => rfl)) pe_int) rfl)))), ?_⟩
    have n1 := no_cnt h9 p1
    have n2 := no_cnt h9 p2
    have a1 : (lI c)[noOf m sd.1]? = some (nI (Kzs2.colour m c sd.1)) := lI_at (by omega)
    have a2 : (lI c)[noOf m sd.2]? = some (nI (Kzs2.colour m c sd.2)) := lI_at (by omega)
    refine ⟨_, rfl, _, rfl, _, rfl, b, _, _, .ref x, rfl, rfl, SqT.of hb, at_nat (j := 0) rfl, m, x, sd.1, rfl, h9, p1, hx, a, _, _, _, rfl, rfl, ha, at_nat a1, _, _, rfl, rfl, _, rfl, ite2 (fun z => ?_) (fun z => ?_)⟩
    · have z : ((Kzs2.colour m c sd.1 : Nat) : Int) = 1 := of_decide_eq_true z
      refine ⟨_, rfl, _, rfl, _, rfl, b, _, _, .ref y, rfl, rfl, SqT.of hb, at_nat (j := 1) rfl, m, y, sd.2, rfl, h9, p2, hy, a, _, _, _, rfl, rfl, ha, at_nat a2, _, _, rfl, rfl, ?_⟩
      have e : decide (((Kzs2.colour m c sd.2 : Nat) : Int) = 0) = dOut m c sd := by
        rw [Bool.eq_iff_iff, decide_eq_true_iff, dOut_iff]
        omega
      show Q (.bl (decide (((Kzs2.colour m c sd.2 : Nat) : Int) = 0))) H
      rw [e]
      exact q
    · have z : ¬ ((Kzs2.colour m c sd.1 : Nat) : Int) = 1 := fun y => z (decide_eq_true y)
      have e : false = dOut m c sd := by
        rw [Bool.eq_iff_iff, dOut_iff]
        constructor
        · intro y; cases y
        · intro y; omega
      show Q (.bl false) H
      rw [e]
      exact q
/-! ### next_points -/
def nxI (m : Nat) (c : List Nat) (v : Nat) : Int := match nxt m c v with
  | some w => (w : Int)
  | none => -1
def ownD (m : Nat) (s : Sd) : Nat := (own m (rev s)).getD 0
def doorsTo (m : Nat) (c : List Nat) (ss : List Sd) (i : Nat) : List Nat := ((ss.take i).filter (dOut m c)).map (ownD m)
theorem doors_succ {m : Nat} {c : List Nat} {ss : List Sd} {i : Nat} {s : Sd} (h : ss[i]? = some s) : doorsTo m c ss (i + 1) = doorsTo m c ss i ++ (if dOut m c s = true then [ownD m s] else []) := by
  unfold doorsTo
  rw [take_snoc h, List.filter_append, List.map_append]
  by_cases e : dOut m c s = true
  · rw [if_pos e, List.filter_cons_of_pos e]
    rfl
  · rw [if_neg e, List.filter_cons_of_neg e]
    rfl
theorem doors_len (m : Nat) (c : List Nat) (ss : List Sd) (i : Nat) : (doorsTo m c ss i).length ≤ ss.length := by
  unfold doorsTo
  rw [List.length_map]
  refine Nat.le_trans (List.length_filter_le _ _) ?_
  rw [List.length_take]
  exact Nat.min_le_right _ _
theorem doors_nil {m v : Nat} {c : List Nat} {ss : List Sd} (h : (pts m).getD v [] = ss) (e : doorsTo m c ss ss.length = []) : nxI m c v = -1 := by
  unfold doorsTo at e
  rw [List.take_length, List.map_eq_nil_iff, List.filter_eq_nil_iff] at e
  unfold nxI nxt
  rw [h, List.find?_eq_none.mpr e]
theorem doors_cons {m v x : Nat} {c : List Nat} {ss : List Sd} (F : FairC m c) (h9 : m ≤ 9) (hv : v < m * m + m) (h : (pts m).getD v [] = ss) (e : (doorsTo m c ss ss.length)[0]? = some x) : nxI m c v = (x : Int) := by
  unfold doorsTo at e
  rw [List.take_length, List.getElem?_map, ← List.head?_eq_getElem?, List.head?_filter] at e
  cases z : ss.find? (dOut m c) with
  | none =>
    rw [z] at e
    cases e
  | some s =>
    rw [z] at e
    have e : ownD m s = x := Option.some.inj e
    have hs : s ∈ (pts m).getD v [] := by
      rw [h]
      exact List.mem_of_find?_eq_some z
    obtain ⟨w, hw, _⟩ := out_own F h9 hv hs (List.find?_some (p := dOut m c) z)
    unfold nxI nxt
    rw [h, z]
    show (match own m (rev s) with
      | some w => (w : Int)
      | none => -1) = (x : Int)
    rw [← e]
    unfold ownD
    rw [hw]
    rfl
def follow (m : Nat) (c : List Nat) : List Int := (List.range (m * m + m)).map (nxI m c)
theorem follow_at {m v : Nat} {c : List Nat} (h : v < m * m + m) : (follow m c)[v]? = some (nxI m c v) := by
  unfold follow
  rw [List.getElem?_map, List.getElem?_range h]
  rfl
theorem pt_places {m v : Nat} {s : Sd} (h9 : m ≤ 9) (hv : v < m * m + m) (hs : s ∈ (pts m).getD v []) : s.1.i + s.1.j ≤ m ∧ s.2.i + s.2.j ≤ m := by
  by_cases hr : v < m * m
  · rw [pts_room h9 hr] at hs
    exact (side_own h9 hr hs).2
  · obtain ⟨i, rfl⟩ : ∃ i, v = m * m + i := ⟨v - m * m, by omega⟩
    rw [pts_outer h9 (by omega)] at hs
    have : s = rev (so m i) := by simpa using hs
    subst this
    constructor
    · show i + (m - i) ≤ m
      omega
    · show i + 1 + (m - i - 1) ≤ m
      omega
theorem pt_short {m v : Nat} (h9 : m ≤ 9) (hv : v < m * m + m) : ((pts m).getD v []).length ≤ 3 := by
  by_cases hr : v < m * m
  · rw [pts_room h9 hr]
    obtain ⟨a, b, d, e⟩ := sides_three (rm m v)
    rw [e]
    exact Nat.le_refl _
  · obtain ⟨i, rfl⟩ : ∃ i, v = m * m + i := ⟨v - m * m, by omega⟩
    rw [pts_outer h9 (by omega)]
    exact Nat.le_of_ble_eq_true rfl
def spNext (K : PySem.W.Frag) : Sp := fun vs H Q _ => ∃ (m : Nat) (a : Addr) (c : List Nat), vs = [nI m, .ref a] ∧ m ≤ 9 ∧ SqL K H a (lI c) ∧ c.length = cnt m ∧ FairC m c ∧ ∀ (H' : Hp) (l : Addr), Same H H' → H l = none → H' l = some (.lst ((follow m c).map V.int)) → Q (.ref l) H'
theorem scNext : FnScope ["m", "colours", "sides", "owners", "found", "own", "beyond", "side"] ["m", "colours"] (defScope s_next_points) := ⟨rfl, rfl, rfl, by decide +kernel, rfl, by decide +kernel, by decide +kernel⟩
theorem ok_next_points {f fS fO fD : Addr} {fd fdS fdO fdD : FuncData} {t1 : Tok} (F : Fun K "next_points" "next_points" s_next_points f fd) (FS : Fun K "sides_of_points" "sides_of_points" s_sides_of_points fS fdS) (FO : Fun K "points_by_side" "points_by_side" s_points_by_side fO fdO) (FD : Fun K "is_door_out" "is_door_out" s_is_door_out fD fdD)
    (GS : FnOk P w K mg base CX0 2 fS fdS ["m"] spSides) (GO : FnOk P w K mg base CX0 1 fO fdO ["sides"] (spOwners P w)) (GD : FnOk P w K mg base CX0 2 fD fdD ["m", "colours", "side"] (spDoor K))
    (bS : Binds K fdS ["m"] []) (bO : Binds K fdO ["sides"] []) (bD : Binds K fdD ["m", "colours", "side"] []) (gS : mg "sides_of_points" = some (.ref fS)) (gO : mg "points_by_side" = some (.ref fO)) (gD : mg "is_door_out" = some (.ref fD))
    (g1 : mg "NO_POINT" = some (.int (-1) t1)) (ml : mg "len" = none) : FnOk P w K mg base CX0 3 f fd ["m", "colours"] (spNext K) := by
  refine F.ok scNext (fun vs H Q E h => ?_) (fun cdv A outer s H vs Q E hr h => ?_)
  · obtain ⟨m, a, c, rfl, _⟩ := h
    rfl
  · obtain ⟨m, a, c, rfl, h9, ha, hc, FC, q⟩ := h
    have hr1 : Room 1 _ := hr.mono (by decide)
    refine ⟨_, pss_cons (ps_set (i := 2) scNext.nd rfl (.inl rfl) (pe_call GS hr rfl gS FS.kp bS .nil pass0 (pa_cons (pv 0) pa_nil)))
      (pss_cons (ps_set (i := 3) scNext.nd rfl (.inr rfl) (pe_call GO hr1 rfl gO FO.kp bO .nil pass0 (pa_cons (pv 2) pa_nil)))
      (pss_cons (ps_set (i := 4) scNext.nd rfl (.inl rfl) (pe_lst pa_nil))
      (pss_cons (ps_for PassesOwn.never rfl (pi_list (pv 2)) (pg_name (i := 5) scNext.nd rfl (.inl rfl))
        (pss_cons (ps_setLc (i := 6) (own := [("side", 7)]) (g := gName 7) (tt := tB (tCall (spDoor K) [] E0 (tCons (tVar 0) (tCons (tVar 1) (tCons (tVar 7) tNil)))))
            (te := tSGet P w (tVar 3) (tTup (tCons (tOp (rIxT K) (tVar 7) (tC (.int 1))) (tCons (tOp (rIxT K) (tVar 7) (tC (.int 0))) tNil))))
            rfl scNext.nd rfl rfl (sw_true rfl rfl rfl (by decide +kernel)) (pi_list (pv 5)) (blkOk_by (own := [("side", 7)]) (N := ["m", "colours", "sides", "owners", "found", "own", "beyond", "side"]) (sc := defScope s_next_points) (by decide +kernel))
            (fun _ _ _ _ _ => pg_name (i := 7) scNext.nd rfl (.inl rfl))
            (fun _ _ _ _ _ => pts_one (pt_val (pe_call GD hr rfl gD FD.kp bD .nil pass0 (pa_cons (pv 0) (pa_cons (pv 1) (pa_cons (pv 7) pa_nil))))))
            (fun _ _ _ _ _ => pe_sget (Nat.lt_of_le_of_lt (Nat.add_le_add_left (by decide) _) hr.units) (pv 3) (pe_tup (pa_cons (pe_ix ix_tup (pv 7) pe_int (fun _ _ => rfl)) (pa_cons (pe_ix ix_tup (pv 7) pe_int (fun _ _ => rfl)) pa_nil))) (fun _ _ => rfl)))
        (pss_one (ps_expr (pe_bm PySem.F.plainAttrs_list PySem.F.slot_list_append PySem.F.type_list_append mt_append (pv 4)
          (pa_cons (pe_ifExp (pt_cmpR op_gt (pe_callB call_len_seq (by rfl) ml PySem.boot_len (pa_cons (pv 6) pa_nil)) pe_int (nomark _)) (pe_ix ix_list (pv 6) pe_int (fun _ _ => rfl)) (pe_glob (v := .int (-1)) rfl g1 ⟨_, rfl⟩)) pa_nil))))))
      (pss_one (ps_ret (pv 4)))))), ?_⟩
    -- sides, owners, found
    refine ⟨_, rfl, m, rfl, h9, fun H1 l bs s1 nl el pa => ?_⟩
    refine ⟨_, rfl, m, l, bs, rfl, h9, el, pa, fun H2 d kas s2 nd ed nk ow => ?_⟩
    refine ⟨Nat.zero_le _, fun e ne => ?_⟩
    have hp9 := pts_len h9
    have hmm : m * m ≤ 9 * 9 := Nat.mul_le_mul h9 h9
    have ha2 := s2.seq (s1.seq ha)
    have el2 := s2 _ _ el
    have pa2 := pa.imp fun b x h => PtAt.mono h s2
    refine ⟨_, rfl, l, rfl, ⟨_, SqL.of (same_upd ne _ _ el2)⟩, for_list (K := K) (a := l) (xs := bs.map V.ref)
      (fun k σ H' => ∃ v5 v6 : Option V, σ = [some (nI m), some (.ref a), some (.ref l), some (.ref d), some (.ref e), v5, v6, none] ∧ Same H2 H' ∧ H' e = some (.lst (((follow m c).take k).map V.int)))
      ⟨none, none, rfl, same_upd ne, upd_same⟩ (fun i σ H' _ ⟨_, _, _, s3, _⟩ => SqL.of (s3 _ _ el2)) ?_ ?_⟩
    · rintro k y σ H3 hk ⟨v5, v6, rfl, s3, ee⟩
      obtain ⟨b, ss, rfl, hb, hss, hP⟩ := pa2.get hk
      obtain ⟨as, eb, hs⟩ := hP
      have hkl : k < m * m + m := by
        have := (List.getElem?_eq_some_iff.mp hss).1
        rwa [hp9] at this
      have gS : (pts m).getD k [] = ss := by
        rw [List.getD_eq_getElem?_getD, hss]
        rfl
      have h3 : ss.length ≤ 3 := by
        rw [← gS]
        exact pt_short h9 hkl
      -- beyond = [..]
      refine ⟨_, rfl, b, rfl, ⟨_, SqL.of (s3 _ _ eb)⟩, fun D nD => ?_⟩
      refine lc_list (K := K) (a := b) (xs := as.map V.ref) (fun i H' => Same H3 H' ∧ H' D = some (.lst (lI (doorsTo m c ss i)))) ⟨same_upd nD, upd_same⟩ (fun i H' _ ⟨s4, _⟩ => SqL.of ((s3.trans s4) _ _ eb)) ?_ ?_
      · rintro i y H4 hi ⟨s4, eD⟩
        obtain ⟨x, sd, rfl, hx, hsd, hS⟩ := hs.get hi
        have s24 := s3.trans s4
        have hS4 := hS.mono s24
        have hmem : sd ∈ (pts m).getD k [] := by
          rw [gS]
          exact List.mem_of_getElem? hsd
        obtain ⟨p1, p2⟩ := pt_places h9 hkl hmem
        have hlen : (lI (doorsTo m c ss i)).length < sizeLine := by
          rw [lI_len]
          exact Nat.lt_of_le_of_lt (doors_len m c ss i) (small1000 (by omega))
        refine ⟨rfl, _, rfl, _, rfl, _, rfl, m, a, x, c, sd, rfl, h9, s24.seq ha2, hc, hS4, p1, p2, _, rfl, ?_⟩
        cases ho : dOut m c sd with
        | false =>
          refine iteBF rfl ⟨s4, ?_⟩
          rw [doors_succ hsd, ho, if_neg Bool.false_ne_true, List.append_nil]
          exact eD
        | true =>
          obtain ⟨x1, y1, hx1, hx2, hx3⟩ := hS4
          obtain ⟨wv, hw, hwl⟩ := out_own FC h9 hkl hmem ho
          obtain ⟨hw1, hw2⟩ := own_mem hw
          obtain ⟨ca, hca⟩ := ow wv (rev sd) hw1 hw2
          refine iteBT rfl ⟨_, rfl, _, rfl, x, _, _, .ref y1, rfl, rfl, SqT.of hx1, at_nat (j := 1) rfl, _, rfl, x, _, _, .ref x1, rfl, rfl, SqT.of hx1, at_nat (j := 0) rfl, by show 2 ≤ sizeLine; decide, fun t nt => ?_⟩
          have s5 := same_upd (o := .tup [.ref y1, .ref x1]) nt
          have et : upd H4 t (.tup [.ref y1, .ref x1]) t = some (.tup [.ref y1, .ref x1]) := upd_same
          generalize upd H4 t (.tup [.ref y1, .ref x1]) = H5 at s5 et ⊢
          have kt : SideAt H5 t (rev sd) := ⟨y1, x1, et, s5 _ _ hx3, s5 _ _ hx2⟩
          refine ⟨d, kas, rev sd, t, nI wv, ca, rfl, rfl, (s24.trans s5) _ _ ed, kt, nk.same (s24.trans s5), hca, ?_⟩
          refine ⟨_, s5 _ _ eD, hlen, same_mut (s4.trans s5) nD, ?_⟩
          rw [upd_same, doors_succ hsd, ho, if_pos rfl, lI_app]
          have eo : ownD m sd = wv := by
            unfold ownD
            rw [hw]
            rfl
          rw [eo]
          rfl
      · rintro H4 ⟨s4, eD⟩
        rw [List.length_map, hs.1] at eD
        have s24 := s3.trans s4
        -- found.append(..)
        refine ⟨_, rfl, .inl ⟨rfl, _, SqL.of (s4 _ _ ee)⟩, _, rfl, D, _, rfl, .inl (SqL.of eD), _, _, rfl, rfl, _, rfl, ?_⟩
        have hlen : (((follow m c).take k).map V.int).length < sizeLine := by
          rw [List.length_map]
          exact Nat.lt_of_le_of_lt (List.length_take_le _ _) (small1000 (by omega))
        have fin : ∀ z : Int, z = nxI m c k → ∃ l_1 xs y, V.ref e = V.ref l_1 ∧ [V.int z] = [y] ∧ H4 l_1 = some (HO.lst xs) ∧ xs.length < sizeLine ∧ (∃ v5 v6 : Option V, [some (nI m), some (.ref a), some (.ref l), some (.ref d), some (.ref e), some (.ref b), some (.ref D), none] = [some (nI m), some (.ref a), some (.ref l), some (.ref d), some (.ref e), v5, v6, none] ∧ Same H2 (upd H4 l_1 (.lst (xs ++ [y]))) ∧ upd H4 l_1 (.lst (xs ++ [y])) e = some (.lst (((follow m c).take (k + 1)).map V.int))) := by
          intro z hz
          refine ⟨e, _, _, rfl, rfl, s4 _ _ ee, hlen, _, _, rfl, same_mut s24 ne, ?_⟩
          rw [upd_same, take_snoc (follow_at hkl), List.map_append, hz]
          rfl
        cases eL : doorsTo m c ss ss.length with
        | nil =>
          refine iteBF rfl ?_
          exact fin (-1) (doors_nil gS eL).symm
        | cons z r =>
          refine iteBT (decide_eq_true (by show (0 : Int) < ((r.map nI).length + 1 : Nat); omega)) ?_
          refine ⟨_, rfl, D, _, _, nI z, rfl, rfl, SqL.of eD, at_nat (j := 0) (by rw [eL]; rfl), ?_⟩
          exact fin (z : Int) (doors_cons FC h9 hkl gS (by rw [eL]; rfl)).symm
    · rintro σ H3 ⟨v5, v6, rfl, s3, ee⟩
      refine ⟨_, rfl, q H3 e (s1.trans (s2.trans s3)) ((s1.trans s2).free ne) ?_⟩
      rw [ee, List.length_map, pa.1, hp9, List.take_of_length_le (by unfold follow; rw [List.length_map, List.length_range]; exact Nat.le_refl _)]
/-! ### end_of_line -/
theorem nxI_some {m v w : Nat} {c : List Nat} (h : nxt m c v = some w) : nxI m c v = (w : Int) := by
  unfold nxI
  rw [h]
theorem nxI_none {m v : Nat} {c : List Nat} (h : nxt m c v = none) : nxI m c v = -1 := by
  unfold nxI
  rw [h]
theorem fI_at {m v : Nat} {c : List Nat} (h : v < m * m + m) : ((follow m c).map V.int)[v]? = some (.int (nxI m c v)) := by
  rw [List.getElem?_map, follow_at h]
  rfl
def spEnd (K : PySem.W.Frag) : Sp := fun vs H Q _ => ∃ (m : Nat) (c : List Nat) (a : Addr) (i : Nat), vs = [.ref a, nI (m * m + i)] ∧ m ≤ 9 ∧ FairC m c ∧ SqL K H a ((follow m c).map V.int) ∧ i < m ∧ (nxt m c (m * m + i)).isSome = true ∧ Q (nI (lineEnd m c (m * m + i))) H
theorem scEnd : FnScope ["following", "start", "point"] ["following", "start"] (defScope s_end_of_line) := ⟨rfl, rfl, rfl, by decide +kernel, rfl, by decide +kernel, by decide +kernel⟩
theorem ok_end_of_line {f : Addr} {fd : FuncData} {t1 : Tok} (F : Fun K "end_of_line" "end_of_line" s_end_of_line f fd) (g1 : mg "NO_POINT" = some (.int (-1) t1)) : FnOk P w K mg base CX0 1 f fd ["following", "start"] (spEnd K) := by
  refine F.ok scEnd (fun vs H Q E h => ?_) (fun cdv A outer s H vs Q E hr h => ?_)
  · obtain ⟨m, c, a, i, rfl, _⟩ := h
    rfl
  · obtain ⟨m, c, a, i, rfl, h9, FC, ha, hi, hb, q⟩ := h
    refine ⟨_, pss_cons (ps_set (i := 2) scEnd.nd rfl (.inl rfl) (pv 1))
      (pss_cons (ps_while PassesOwn.never (pt_cmpR op_ne (pe_ix ix_list (pv 0) (pv 2) (fun _ _ => rfl)) (pe_glob (v := .int (-1)) rfl g1 ⟨_, rfl⟩) (nomark _))
        (pss_one (ps_set (i := 2) scEnd.nd rfl (.inl rfl) (pe_ix ix_list (pv 0) (pv 2) (fun _ _ => rfl)))))
      (pss_one (ps_ret (pv 2)))), ?_⟩
    have hv : m * m + i < m * m + m := by omega
    have hN := next_lt FC h9
    have h0 := no_pre (c := c) h9 hi (by rw [← nxt_outer h9 hi]; exact hb)
    have hch := on_chain (g := Kzs2.toLines m c) (m * m + m) (m * m + i)
    have hne := on_ne (g := Kzs2.toLines m c) (m * m + m) (m * m + i)
    have hz := on_zero (g := Kzs2.toLines m c) (m * m + m) (m * m + i)
    have hin := ch_in hN hch (by rw [hz]; exact hv)
    have hst := on_stops hN hv h0
    unfold lineEnd at q
    unfold endOf at hst q
    generalize Kzs1.onward (Kzs2.toLines m c) (m * m + m) (m * m + i) = l at hch hne hz hin hst q
    refine ⟨_, rfl, ?_⟩
    refine ⟨fun k σ H' => ∃ j, j < l.length ∧ k + j = l.length ∧ σ = [some (.ref a), some (nI (m * m + i)), some (nI (l.getD j 0))] ∧ H' = H, ⟨l.length, 0, hne, by omega, by rw [hz]; rfl, rfl⟩, ?_⟩
    rintro k σ H' ⟨j, hj, hk, rfl, rfl⟩
    have hlt := hin j hj
    refine ⟨_, rfl, _, rfl, a, _, _, _, rfl, rfl, ha, at_nat (fI_at hlt), rfl, _, rfl, ?_⟩
    by_cases hl : j + 1 < l.length
    · have e := hch j hl
      rw [next_nxt FC h9 hlt] at e
      have e2 := nxI_some e
      refine iteBT (by rw [e2, decide_eq_false (by intro z; have := V.int.inj z; omega)]; rfl) ?_
      refine ⟨fun σ' H2 => σ' = [some (.ref a), some (nI (m * m + i)), some (nI (l.getD (j + 1) 0))] ∧ H2 = H', fun σ' H2 ⟨x1, x2⟩ => ⟨k - 1, by omega, j + 1, hl, by omega, x1, x2⟩, _, rfl, _, rfl, a, _, _, _, rfl, rfl, ha, at_nat (fI_at hlt), ?_⟩
      rw [e2]
      exact ⟨rfl, rfl⟩
    · have ej : j = l.length - 1 := by omega
      have e : Kzs1.next (Kzs2.toLines m c) (l.getD j 0) = none := by rw [ej]; exact hst
      rw [next_nxt FC h9 hlt] at e
      have e2 := nxI_none e
      refine iteBF (by rw [e2, decide_eq_true rfl]; rfl) ?_
      refine ⟨_, rfl, ?_⟩
      rw [ej]
      exact q
/-! ### first_room -/
def begunTo (m : Nat) (c : List Nat) (i : Nat) : List Nat := ((List.range i).map (m * m + ·)).filter fun v => (nxt m c v).isSome
theorem begun_succ (m : Nat) (c : List Nat) (i : Nat) : begunTo m c (i + 1) = begunTo m c i ++ (if (nxt m c (m * m + i)).isSome = true then [m * m + i] else []) := by
  unfold begunTo
  rw [List.range_succ, List.map_append, List.filter_append]
  by_cases e : (nxt m c (m * m + i)).isSome = true
  · rw [if_pos e, List.map_cons, List.map_nil, List.filter_cons_of_pos (p := fun v => (nxt m c v).isSome) e]
    rfl
  · rw [if_neg e, List.map_cons, List.map_nil, List.filter_cons_of_neg (p := fun v => (nxt m c v).isSome) e]
    rfl
theorem begunTo_len (m : Nat) (c : List Nat) (i : Nat) : (begunTo m c i).length ≤ i := by
  unfold begunTo
  refine Nat.le_trans (List.length_filter_le _ _) ?_
  rw [List.length_map, List.length_range]
  exact Nat.le_refl _
theorem mem_begun {m v : Nat} {c : List Nat} (h : v ∈ begun m c) : ∃ i, i < m ∧ v = m * m + i ∧ (nxt m c (m * m + i)).isSome = true := by
  unfold begun at h
  obtain ⟨h1, h2⟩ := List.mem_filter.mp h
  obtain ⟨i, hi, rfl⟩ := List.mem_map.mp h1
  exact ⟨i, List.mem_range.mp hi, rfl, h2⟩
theorem isSome_bool (m v : Nat) (c : List Nat) : (!decide (V.int (nxI m c v) = V.int (-1))) = (nxt m c v).isSome := by
  cases e : nxt m c v with
  | none =>
    rw [nxI_none e, decide_eq_true rfl]
    rfl
  | some w =>
    rw [nxI_some e, decide_eq_false (by intro z; have := V.int.inj z; omega)]
    rfl
def spFirst (K : PySem.W.Frag) : Sp := fun vs H Q _ => ∃ (m : Nat) (a : Addr) (c : List Nat), vs = [nI m, .ref a] ∧ 1 ≤ m ∧ m ≤ 9 ∧ SqL K H a (lI c) ∧ c.length = cnt m ∧ FairC m c ∧ ∀ (H' : Hp) (k : Nat), Same H H' → Kzs2.first m c = some k → k < m * m → Q (nI k) H'
theorem scFirst : FnScope ["m", "colours", "outside", "following", "begun", "ends", "side", "end"] ["m", "colours"] (defScope s_first_room) := ⟨rfl, rfl, rfl, by decide +kernel, rfl, by decide +kernel, by decide +kernel⟩
theorem ok_first_room {f fR fN fE : Addr} {fd fdR fdN fdE : FuncData} {t1 : Tok} (F : Fun K "first_room" "first_room" s_first_room f fd) (FR : Fun K "count_rooms" "count_rooms" s_count_rooms fR fdR) (FN : Fun K "next_points" "next_points" s_next_points fN fdN) (FE : Fun K "end_of_line" "end_of_line" s_end_of_line fE fdE)
    (GR : FnOk P w K mg base CX0 1 fR fdR ["m"] spCountR) (GN : FnOk P w K mg base CX0 3 fN fdN ["m", "colours"] (spNext K)) (GE : FnOk P w K mg base CX0 1 fE fdE ["following", "start"] (spEnd K)) (bR : Binds K fdR ["m"] []) (bN : Binds K fdN ["m", "colours"] []) (bE : Binds K fdE ["following", "start"] [])
    (gR : mg "count_rooms" = some (.ref fR)) (gN : mg "next_points" = some (.ref fN)) (gE : mg "end_of_line" = some (.ref fE)) (g1 : mg "NO_POINT" = some (.int (-1) t1)) (mr : mg "range" = none) : FnOk P w K mg base CX0 4 f fd ["m", "colours"] (spFirst K) := by
  refine F.ok scFirst (fun vs H Q E h => ?_) (fun cdv A outer s H vs Q E hr h => ?_)
  · obtain ⟨m, a, c, rfl, _⟩ := h
    rfl
  · obtain ⟨m, a, c, rfl, h1, h9, ha, hc, FC, q⟩ := h
    have hr1 : Room 1 _ := hr.mono (by decide)
    have hmm : m * m ≤ 9 * 9 := Nat.mul_le_mul h9 h9
    refine ⟨_, pss_cons (ps_set (i := 2) scFirst.nd rfl (.inr rfl) (pe_call GR hr1 rfl gR FR.kp bR .nil pass0 (pa_cons (pv 0) pa_nil)))
      (pss_cons (ps_set (i := 3) scFirst.nd rfl (.inr rfl) (pe_call GN hr rfl gN FN.kp bN .nil pass0 (pa_cons (pv 0) (pa_cons (pv 1) pa_nil))))
      (pss_cons (ps_setLc (i := 4) (own := [("side", 6)]) (g := gName 6) (tt := tTest (tOp rNe (tOp (rIxL K) (tVar 3) (tVar 6)) (tC (.int (-1))))) (te := tVar 6)
          rfl scFirst.nd rfl rfl (sw_true rfl rfl rfl (by decide +kernel)) (pi_range2 rfl mr (pa_cons (pv 2) (pa_cons (pe_op op_add (pv 2) (pv 0)) pa_nil))) (blkOk_by (own := [("side", 6)]) (N := ["m", "colours", "outside", "following", "begun", "ends", "side", "end"]) (sc := defScope s_first_room) (by decide +kernel))
          (fun _ _ _ _ _ => pg_name (i := 6) scFirst.nd rfl (.inl rfl))
          (fun _ _ _ _ _ => pts_one (pt_cmpR op_ne (pe_ix ix_list (pv 3) (pv 6) (fun _ _ => rfl)) (pe_glob (v := .int (-1)) rfl g1 ⟨_, rfl⟩) (nomark _)))
          (fun _ _ _ _ _ => pv 6))
      (pss_cons (ps_setLc (i := 5) (own := [("side", 6)]) (g := gName 6) (tt := tYes) (te := tCall (spEnd K) [] E0 (tCons (tVar 3) (tCons (tVar 6) tNil)))
          rfl scFirst.nd rfl rfl (sw_true rfl rfl rfl (by decide +kernel)) (pi_list (pv 4)) (blkOk_by (own := [("side", 6)]) (N := ["m", "colours", "outside", "following", "begun", "ends", "side", "end"]) (sc := defScope s_first_room) (by decide +kernel))
          (fun _ _ _ _ _ => pg_name (i := 6) scFirst.nd rfl (.inl rfl)) (fun _ _ _ _ _ => pts_nil)
          (fun _ _ _ _ _ => pe_call GE hr1 rfl gE FE.kp bE .nil pass0 (pa_cons (pv 3) (pa_cons (pv 6) pa_nil))))
      (pss_one (ps_ret (pe_ix ix_list (pe_lc (own := [("end", 7)]) (g := gName 7) (tt := tTest (tOp (rI0 fun i j => .bl (decide (i < j))) (tVar 7) (tVar 2))) (te := tVar 7)
          rfl scFirst.nd (pi_list (pv 5)) (blkOk_by (own := [("end", 7)]) (N := ["m", "colours", "outside", "following", "begun", "ends", "side", "end"]) (sc := defScope s_first_room) (by decide +kernel))
          (fun _ _ _ _ _ => pg_name (i := 7) scFirst.nd rfl (.inl rfl)) (fun _ _ _ _ _ => pts_one (pt_cmpR op_lt (pv 7) (pv 2) (nomark _))) (fun _ _ _ _ _ => pv 7)) pe_int (fun _ _ => rfl))))))), ?_⟩
    -- outside, following
    refine ⟨_, rfl, m, rfl, h9, ?_⟩
    refine ⟨_, rfl, _, rfl, m, a, c, rfl, h9, ha, hc, FC, fun H1 l s1 nl el => ?_⟩
    have hln : (((m * m : Nat) : Int) + (m : Int) - ((m * m : Nat) : Int)).toNat = m := by omega
    -- begun
    refine ⟨_, rfl, _, rfl, _, rfl, _, _, rfl, rfl, _, _, rfl, ⟨by omega, by omega, by omega, by omega⟩, fun D nD => ?_⟩
    refine lc_range (lo := ((m * m : Nat) : Int)) (n := (((m * m : Nat) : Int) + (m : Int) - ((m * m : Nat) : Int)).toNat) (fun i H' => Same H1 H' ∧ H' D = some (.lst (lI (begunTo m c i)))) ⟨same_upd nD, upd_same⟩ ?_ ?_
    · rintro i H2 hi ⟨s2, eD⟩
      rw [hln] at hi
      have hat : atI ((follow m c).map V.int) (((m * m : Nat) : Int) + (i : Int)) = some (.int (nxI m c (m * m + i))) := at_of (j := m * m + i) (by omega) (fI_at (by omega))
      have hlen : (lI (begunTo m c i)).length < sizeLine := by
        rw [lI_len]
        exact Nat.lt_of_le_of_lt (begunTo_len m c i) (small1000 (by omega))
      refine ⟨rfl, _, rfl, _, rfl, l, _, _, _, rfl, rfl, SqL.of (s2 _ _ el), hat, rfl, _, rfl, ?_⟩
      have eb := isSome_bool m (m * m + i) c
      cases ho : (nxt m c (m * m + i)).isSome with
      | false =>
        refine iteBF (eb.trans ho) ⟨s2, ?_⟩
        rw [begun_succ, ho, if_neg Bool.false_ne_true, List.append_nil]
        exact eD
      | true =>
        refine iteBT (eb.trans ho) ⟨_, rfl, _, eD, hlen, same_mut s2 nD, ?_⟩
        rw [upd_same, begun_succ, ho, if_pos rfl, lI_app]
        show some (HO.lst (_ ++ [V.int (((m * m : Nat) : Int) + (i : Int))])) = some (HO.lst (_ ++ [V.int ((m * m + i : Nat) : Int)]))
        rw [Int.natCast_add]
    · rintro H2 ⟨s2, eD⟩
      rw [hln, show begunTo m c m = begun m c from rfl] at eD
      have hbl : (begun m c).length ≤ 9 := Nat.le_trans (begunTo_len m c m) h9
      -- ends
      refine ⟨_, rfl, D, rfl, ⟨_, SqL.of eD⟩, fun D2 nD2 => ?_⟩
      refine lc_list (K := K) (a := D) (xs := lI (begun m c)) (fun i H' => Same H2 H' ∧ H' D2 = some (.lst (lI (((begun m c).take i).map (lineEnd m c))))) ⟨same_upd nD2, upd_same⟩ (fun i H' _ ⟨s3, _⟩ => SqL.of (s3 _ _ eD)) ?_ ?_
      · rintro i y H3 hy ⟨s3, eD2⟩
        have hk : i < (begun m c).length := by
          have := (List.getElem?_eq_some_iff.mp hy).1
          rwa [lI_len] at this
        have eB : (begun m c)[i]? = some (begun m c)[i] := List.getElem?_eq_getElem hk
        obtain ⟨j, hj, ej, hjs⟩ := mem_begun (List.mem_of_getElem? eB)
        rw [ej] at eB
        have ey : y = nI (m * m + j) := by
          rw [List.getElem?_map, eB] at hy
          exact (Option.some.inj hy).symm
        subst ey
        refine ⟨rfl, _, rfl, _, rfl, m, c, l, j, rfl, h9, FC, SqL.of ((s2.trans s3) _ _ el), hj, hjs, ?_⟩
        refine ⟨_, eD2, ?_, same_mut s3 nD2, ?_⟩
        · rw [lI_len, List.length_map]
          exact Nat.lt_of_le_of_lt (List.length_take_le _ _) (small1000 (by omega))
        · rw [upd_same, take_snoc eB, List.map_append, lI_app]
          rfl
      · rintro H3 ⟨s3, eD2⟩
        rw [lI_len, List.take_length] at eD2
        generalize hes : (begun m c).map (lineEnd m c) = es at eD2
        have hel : es.length ≤ 9 := by rw [← hes, List.length_map]; exact hbl
        -- [end for end in ends if end < outside][0]
        refine ⟨_, rfl, D2, rfl, ⟨_, SqL.of eD2⟩, fun D3 nD3 => ?_⟩
        refine lc_list (K := K) (a := D2) (xs := lI es) (fun i H' => Same H3 H' ∧ H' D3 = some (.lst (lI ((es.take i).filter fun v => decide (v < m * m))))) ⟨same_upd nD3, upd_same⟩ (fun i H' _ ⟨s4, _⟩ => SqL.of (s4 _ _ eD2)) ?_ ?_
        · rintro i y H4 hy ⟨s4, eD3⟩
          have hk : i < es.length := by
            have := (List.getElem?_eq_some_iff.mp hy).1
            rwa [lI_len] at this
          have eB : es[i]? = some es[i] := List.getElem?_eq_getElem hk
          generalize es[i] = x at eB
          have ey : y = nI x := by
            rw [List.getElem?_map, eB] at hy
            exact (Option.some.inj hy).symm
          subst ey
          refine ⟨rfl, _, rfl, _, rfl, _, _, rfl, rfl, _, rfl, ite2 (fun z => ?_) (fun z => ?_)⟩
          · have z : (x : Int) < ((m * m : Nat) : Int) := of_decide_eq_true z
            have z' : decide (x < m * m) = true := decide_eq_true (by omega)
            refine ⟨_, rfl, _, eD3, ?_, same_mut s4 nD3, ?_⟩
            · rw [lI_len]
              refine Nat.lt_of_le_of_lt (List.length_filter_le _ _) (Nat.lt_of_le_of_lt (List.length_take_le _ _) (small1000 (by omega)))
            · rw [upd_same, take_snoc eB, List.filter_append, List.filter_cons_of_pos (p := fun v => decide (v < m * m)) z', lI_app]
              rfl
          · have z : ¬ (x : Int) < ((m * m : Nat) : Int) := fun y => z (decide_eq_true y)
            have z' : ¬ decide (x < m * m) = true := fun y => z (by have := of_decide_eq_true y; omega)
            refine ⟨s4, ?_⟩
            rw [take_snoc eB, List.filter_append, List.filter_cons_of_neg (p := fun v => decide (v < m * m)) z', List.filter_nil, List.append_nil]
            exact eD3
        · rintro H4 ⟨s4, eD3⟩
          rw [lI_len, List.take_length, ← hes, show ((begun m c).map (lineEnd m c)).filter (fun v => decide (v < m * m)) = inRooms m c from rfl] at eD3
          obtain ⟨k, k1, k2, k3⟩ := first_some FC h9 h1
          refine ⟨D3, _, _, nI k, rfl, rfl, SqL.of eD3, at_nat (j := 0) (by rw [List.getElem?_map, k2]; rfl), ?_⟩
          exact q H4 k (s1.trans (s2.trans (s3.trans s4))) k1 k3
/-! ### corner_of_person -/
def spCorner : Sp := fun vs H Q _ => ∃ (r : Addr) (c : Nat) (R : Kzs2.Room), vs = [.ref r, nI c] ∧ c < 3 ∧ RoomAt H r (corners R) ∧ ∀ (H' : Hp) (b : Addr), Same H H' → H' b = some (pT (cornerOf R c)) → Q (.ref b) H'
theorem scCorner : FnScope ["room", "c", "corner"] ["room", "c"] (defScope s_corner_of_person) := ⟨rfl, rfl, rfl, by decide +kernel, rfl, by decide +kernel, by decide +kernel⟩
theorem owns_bool (p : Pl) (c : Nat) : decide (nI (Kzs3.owner p) = nI c) = (Kzs3.owner p == c) := by
  rw [Bool.beq_eq_decide_eq, Bool.eq_iff_iff, decide_eq_true_iff, decide_eq_true_iff]
  constructor
  · intro h
    have := V.int.inj h
    omega
  · intro h
    rw [h]
theorem ok_corner_of_person {f fW : Addr} {fd fdW : FuncData} (F : Fun K "corner_of_person" "corner_of_person" s_corner_of_person f fd) (FW : Fun K "whose_place" "whose_place" s_whose_place fW fdW) (GW : FnOk P w K mg base CX0 1 fW fdW ["place"] spWhose)
    (bW : Binds K fdW ["place"] []) (gW : mg "whose_place" = some (.ref fW)) : FnOk P w K mg base CX0 2 f fd ["room", "c"] spCorner := by
  refine F.ok scCorner (fun vs H Q E h => ?_) (fun cdv A outer s H vs Q E hr h => ?_)
  · obtain ⟨r, c, R, rfl, _⟩ := h
    rfl
  · obtain ⟨r, c, R, rfl, hc, ⟨cs, er, pc⟩, q⟩ := h
    refine ⟨_, pss_one (ps_ret (pe_ix ix_list (pe_lc (own := [("corner", 2)]) (g := gName 2) (tt := tTest (tOp rEq (tCall spWhose [] E0 (tCons (tVar 2) tNil)) (tVar 1))) (te := tVar 2)
          rfl scCorner.nd (pi_tup (pv 0)) (blkOk_by (own := [("corner", 2)]) (N := ["room", "c", "corner"]) (sc := defScope s_corner_of_person) (by decide +kernel))
          (fun _ _ _ _ _ => pg_name (i := 2) scCorner.nd rfl (.inl rfl))
          (fun _ _ _ _ _ => pts_one (pt_cmpR op_eq (pe_call GW hr rfl gW FW.kp bW .nil pass0 (pa_cons (pv 2) pa_nil)) (pv 1) (nomark _)))
          (fun _ _ _ _ _ => pv 2)) pe_int (fun _ _ => rfl))), ?_⟩
    have h3 : (corners R).length = 3 := by
      obtain ⟨x, y, z, e⟩ := corners_three R
      rw [e]
      rfl
    refine ⟨_, rfl, r, rfl, ⟨_, SqT.of er⟩, fun D nD => ?_⟩
    refine lc_tup (K := K) (a := r) (xs := cs.map V.ref) (fun i H' => Same H H' ∧ ∃ ts : List Addr, H' D = some (.lst (ts.map V.ref)) ∧ PlsAt H ts (((corners R).take i).filter fun p => Kzs3.owner p == c)) ⟨same_upd nD, [], upd_same, ⟨rfl, fun k p hq => by simp at hq⟩⟩ (fun i H' _ ⟨s1, _⟩ => SqT.of (s1 _ _ er)) ?_ ?_
    · rintro i y H1 hi ⟨s1, ts, eD, pt⟩
      obtain ⟨b, p, rfl, hb, hp, hbp⟩ := AllAt.get (R := fun a p => H a = some (pT p)) pc hi
      have hlen : (ts.map V.ref).length < sizeLine := by
        rw [List.length_map, pt.1]
        refine Nat.lt_of_le_of_lt (List.length_filter_le _ _) (Nat.lt_of_le_of_lt (List.length_take_le' _ _) (small1000 (by omega)))
      refine ⟨rfl, _, rfl, b, p, rfl, s1 _ _ hbp, _, rfl, rfl, _, rfl, ?_⟩
      have eb := owns_bool p c
      cases ho : (Kzs3.owner p == c) with
      | false =>
        refine iteBF (eb.trans ho) ⟨s1, ts, eD, ?_⟩
        rw [take_snoc hp, List.filter_append, List.filter_cons_of_neg (p := fun p => Kzs3.owner p == c) (by rw [ho]; exact Bool.false_ne_true), List.filter_nil, List.append_nil]
        exact pt
      | true =>
        refine iteBT (eb.trans ho) ⟨_, rfl, _, eD, hlen, same_mut s1 nD, ts ++ [b], ?_, ?_⟩
        · rw [upd_same, List.map_append]
          rfl
        · rw [take_snoc hp, List.filter_append, List.filter_cons_of_pos (p := fun p => Kzs3.owner p == c) ho, List.filter_nil]
          exact pt.snoc hbp
    · rintro H1 ⟨s1, ts, eD, pt⟩
      rw [List.length_map, pc.1, List.take_length] at pt
      obtain ⟨x, hx, ex⟩ := pt.2 0 _ (filter_owner hc)
      refine ⟨D, _, _, .ref x, rfl, rfl, SqL.of eD, at_nat (j := 0) (by rw [List.getElem?_map, hx]; rfl), q H1 x s1 (s1 _ _ ex)⟩
/-! ### wishes_in_room -/
def spWishIn (K : PySem.W.Frag) : Sp := fun vs H Q _ => ∃ (m : Nat) (a r : Addr) (v : List Nat) (R : Kzs2.Room), vs = [nI m, .ref a, .ref r] ∧ 1 ≤ m ∧ m ≤ 9 ∧ v.length = 3 * m ∧ SqL K H a (lI v) ∧ R ∈ rooms m ∧ RoomAt H r (corners R) ∧ ∀ (H' : Hp) (l : Addr), Same H H' → H l = none → H' l = some (.lst ((wishL m v R 3).map V.int)) → Q (.ref l) H'
theorem scWishIn : FnScope ["m", "v", "room", "told", "c", "corner"] ["m", "v", "room"] (defScope s_wishes_in_room) := ⟨rfl, rfl, rfl, by decide +kernel, rfl, by decide +kernel, by decide +kernel⟩
theorem ok_wishes_in_room {f fC fB : Addr} {fd fdC fdB : FuncData} (F : Fun K "wishes_in_room" "wishes_in_room" s_wishes_in_room f fd) (FC : Fun K "corner_of_person" "corner_of_person" s_corner_of_person fC fdC) (FB : Fun K "best_piece" "best_piece" s_best_piece fB fdB)
    (GC : FnOk P w K mg base CX0 2 fC fdC ["room", "c"] spCorner) (GB : FnOk P w K mg base CX0 3 fB fdB ["m", "v", "c", "place"] (spBest K)) (bC : Binds K fdC ["room", "c"] []) (bB : Binds K fdB ["m", "v", "c", "place"] [])
    (gC : mg "corner_of_person" = some (.ref fC)) (gB : mg "best_piece" = some (.ref fB)) (mr : mg "range" = none) : FnOk P w K mg base CX0 4 f fd ["m", "v", "room"] (spWishIn K) := by
  refine F.ok scWishIn (fun vs H Q E h => ?_) (fun cdv A outer s H vs Q E hr h => ?_)
  · obtain ⟨m, a, r, v, R, rfl, _⟩ := h
    rfl
  · obtain ⟨m, a, r, v, R, rfl, h1, h9, hv, ha, hR, hr', q⟩ := h
    have hr2 : Room 2 _ := hr.mono (by decide)
    refine ⟨_, pss_cons (ps_set (i := 3) scWishIn.nd rfl (.inl rfl) (pe_lst pa_nil))
      (pss_cons (ps_for PassesOwn.never rfl (pi_range1 rfl mr (pa_cons pe_int pa_nil)) (pg_name (i := 4) scWishIn.nd rfl (.inl rfl))
        (pss_cons (ps_set (i := 5) scWishIn.nd rfl (.inl rfl) (pe_call GC hr2 rfl gC FC.kp bC .nil pass0 (pa_cons (pv 2) (pa_cons (pv 4) pa_nil))))
        (pss_one (ps_expr (pe_bm PySem.F.plainAttrs_list PySem.F.slot_list_extend PySem.F.type_list_extend mt_extend (pv 3)
          (pa_cons (pe_lst (pa_cons (pe_ix ix_tup (pv 5) pe_int (fun _ _ => rfl)) (pa_cons (pe_ix ix_tup (pv 5) pe_int (fun _ _ => rfl))
            (pa_cons (pe_call GB hr rfl gB FB.kp bB .nil pass0 (pa_cons (pv 0) (pa_cons (pv 1) (pa_cons (pv 4) (pa_cons (pv 5) pa_nil))))) pa_nil)))) pa_nil))))))
      (pss_one (ps_ret (pv 3)))), ?_⟩
    refine ⟨Nat.zero_le _, fun L nL => ?_⟩
    refine ⟨3, rfl, by decide, by decide, for_range (n := 3) (fun c σ H' => ∃ v4 v5 : Option V, σ = [some (nI m), some (.ref a), some (.ref r), some (.ref L), v4, v5] ∧ Same H H' ∧ H' L = some (.lst ((wishL m v R c).map V.int)))
      ⟨none, none, rfl, same_upd nL, upd_same⟩ ?_ ?_⟩
    · rintro c σ H1 hc ⟨v4, v5, rfl, s1, eL⟩
      refine ⟨_, rfl, _, rfl, r, c, R, (by show [V.ref r, V.int (0 + (c : Int))] = [V.ref r, nI c]; rw [Int.zero_add]), hc, hr'.mono s1, fun H2 b s2 eb => ?_⟩
      have hp : (cornerOf R c).i + (cornerOf R c).j ≤ m := room_in hR (cornerOf_is hc).1
      generalize hco : cornerOf R c = p at eb hp
      refine ⟨_, rfl, .inl ⟨rfl, _, SqL.of (s2 _ _ eL)⟩, _, rfl, b, _, _, nI p.i, rfl, rfl, SqT.of eb, at_nat (j := 0) rfl, _, rfl, b, _, _, nI p.j, rfl, rfl, SqT.of eb, at_nat (j := 1) rfl,
        _, rfl, _, rfl, _, rfl, _, rfl, m, a, c, b, v, p, (by show [nI m, V.ref a, V.int (0 + (c : Int)), V.ref b] = [nI m, .ref a, nI c, .ref b]; rw [Int.zero_add]), h1, h9, hv, (s1.trans s2).seq ha, hc, hp, eb, fun H3 s3 => ⟨by show 3 ≤ sizeLine; decide, fun t nt => ?_⟩⟩
      have s4 := same_upd (o := .lst [nI p.i, nI p.j, nI (Kzs3.choice m v c p)]) nt
      refine ⟨L, t, _, _, rfl, rfl, s4 _ _ (s3 _ _ (s2 _ _ eL)), upd_same, ?_, ?_⟩
      · rw [List.length_map, wishL_len]
        exact Nat.le_of_lt (small1000 (show 3 * c + 3 ≤ 1000 by omega))
      · refine ⟨_, _, rfl, same_mut (s1.trans (s2.trans (s3.trans s4))) nL, ?_⟩
        rw [upd_same, wishL_succ, List.map_append, hco]
        rfl
    · rintro σ H1 ⟨v4, v5, rfl, s1, eL⟩
      exact ⟨_, rfl, q H1 L s1 nL eL⟩
/-! ### shared -/
def spShared (K : PySem.W.Frag) : Sp := fun vs H Q _ => ∃ (m : Nat) (a : Addr) (v : List Nat), vs = [nI m, .ref a] ∧ SqL K H a (lI v) ∧ ∀ (H' : Hp) (p : Addr), H' p = some (.lst ((aL (.shared m v)).map V.int)) → Q (.ref p) H'
theorem scShared : FnScope ["m", "v", "room"] ["m", "v"] (defScope s_shared) := ⟨rfl, rfl, rfl, by decide +kernel, rfl, by decide +kernel, by decide +kernel⟩
theorem ok_shared {f fM fC fF fW fR : Addr} {fd fdM fdC fdF fdW fdR : FuncData} {t22 : Tok} (F : Fun K "shared" "shared" s_shared f fd) (FM : Fun K "is_cake" "is_cake" s_is_cake fM fdM) (FC : Fun K "colours_of_cake" "colours_of_cake" s_colours_of_cake fC fdC) (FF : Fun K "first_room" "first_room" s_first_room fF fdF) (FW : Fun K "wishes_in_room" "wishes_in_room" s_wishes_in_room fW fdW) (FR : Fun K "all_rooms" "all_rooms" s_all_rooms fR fdR)
    (GM : FnOk P w K mg base CX0 2 fM fdM ["m", "v"] (spIsCake K)) (GC : FnOk P w K mg base CX0 4 fC fdC ["m", "v"] (spCakeCs K)) (GF : FnOk P w K mg base CX0 4 fF fdF ["m", "colours"] (spFirst K)) (GW : FnOk P w K mg base CX0 4 fW fdW ["m", "v", "room"] (spWishIn K)) (GR : FnOk P w K mg base CX0 1 fR fdR ["m"] spRooms)
    (bM : Binds K fdM ["m", "v"] []) (bC : Binds K fdC ["m", "v"] []) (bF : Binds K fdF ["m", "colours"] []) (bW : Binds K fdW ["m", "v", "room"] []) (bR : Binds K fdR ["m"] [])
    (gM : mg "is_cake" = some (.ref fM)) (gC : mg "colours_of_cake" = some (.ref fC)) (gF : mg "first_room" = some (.ref fF)) (gW : mg "wishes_in_room" = some (.ref fW)) (gR : mg "all_rooms" = some (.ref fR)) (g22 : mg "NOT_AS_TOLD" = some (.int (-22) t22)) :
    FnOk P w K mg base CX0 5 f fd ["m", "v"] (spShared K) := by
  refine F.ok scShared (fun vs H Q E h => ?_) (fun cdv A outer s H vs Q E hr h => ?_)
  · obtain ⟨m, a, v, rfl, _⟩ := h
    rfl
  · obtain ⟨m, a, v, rfl, ha, q⟩ := h
    have hr1 : Room 1 _ := hr.mono (by decide)
    have hr2 : Room 2 _ := hr.mono (by decide)
    refine ⟨_, pss_cons (ps_if (pt_not (pt_val (pe_call GM hr2 rfl gM FM.kp bM .nil pass0 (pa_cons (pv 0) (pa_cons (pv 1) pa_nil))))) (pss_one (ps_ret (pe_lst (pa_cons (pe_glob (v := .int (-22)) rfl g22 ⟨_, rfl⟩) pa_nil)))) pss_nil)
      (pss_cons (ps_set (i := 2) scShared.nd rfl (.inl rfl) (pe_call GF hr rfl gF FF.kp bF .nil pass0 (pa_cons (pv 0) (pa_cons (pe_call GC hr rfl gC FC.kp bC .nil pass0 (pa_cons (pv 0) (pa_cons (pv 1) pa_nil))) pa_nil))))
      (pss_one (ps_ret (pe_op op_cat (pe_lst (pa_cons (pv 2) pa_nil)) (pe_call GW hr rfl gW FW.kp bW .nil pass0 (pa_cons (pv 0) (pa_cons (pv 1) (pa_cons (pe_ix ix_list (pe_call GR hr1 rfl gR FR.kp bR .nil pass0 (pa_cons (pv 0) pa_nil)) (pv 2) (fun _ _ => rfl)) pa_nil)))))))), ?_⟩
    refine ⟨_, rfl, _, rfl, m, a, v, rfl, ha, _, rfl, ?_⟩
    cases hM : okC m v with
    | false =>
      refine iteT ⟨by show 1 ≤ sizeLine; decide, fun p hp => ?_⟩
      refine q _ p ?_
      have e : aL (.shared m v) = [-22] := by
        unfold aL
        rw [ans_shared, if_pos (okC_f hM)]
        rfl
      rw [e]
      exact upd_same
    | true =>
      obtain ⟨h1, h9, hv, _⟩ := okC_s hM
      refine iteF ?_
      -- room
      refine ⟨_, rfl, _, rfl, _, rfl, m, a, v, rfl, h1, h9, hv, ha, fun H1 D s1 nD eD => ⟨m, D, Kzs3.cakeColours m v, rfl, h1, h9, SqL.of eD, cakeCs_len m v, cake_fair h1 h9, fun H2 k s2 hk hlt => ?_⟩⟩
      -- [room]
      refine ⟨_, rfl, by show 1 ≤ sizeLine; decide, fun l nl => ?_⟩
      have s3 := same_upd (o := .lst [nI k]) nl
      have el : upd H2 l (.lst [nI k]) l = some (.lst [nI k]) := upd_same
      generalize upd H2 l (.lst [nI k]) = H3 at s3 el ⊢
      -- all_rooms(m)[room]
      refine ⟨_, rfl, _, rfl, _, rfl, m, rfl, h9, fun H4 r rs s4 nr er pr => ?_⟩
      have hkr : k < (rooms m).length := by rw [rooms_len h9]; exact hlt
      have erm : rm m k = (rooms m)[k] := by
        show (rooms m).getD k _ = _
        rw [List.getD_eq_getElem?_getD, List.getElem?_eq_getElem hkr]
        rfl
      obtain ⟨x, hx, hR⟩ := pr.2 k (corners (rm m k)) (by rw [List.getElem?_map, List.getElem?_eq_getElem hkr, erm]; rfl)
      refine ⟨_, rfl, r, _, _, .ref x, rfl, rfl, SqL.of er, at_nat (by rw [List.getElem?_map, hx]; rfl), m, a, x, v, rm m k, rfl, h1, h9, hv, (s1.trans (s2.trans (s3.trans s4))).seq ha, by rw [erm]; exact List.getElem_mem hkr, hR, fun H5 W s5 nW eW => ?_⟩
      refine ⟨l, W, _, _, rfl, rfl, s5 _ _ (s4 _ _ el), eW, ?_, fun p np => q _ p ?_⟩
      · rw [List.length_map, wishL_len]
        exact Nat.le_of_lt (small1000 (by show 1 + 3 * 3 ≤ 1000; decide))
      · rw [upd_same]
        have e : aL (.shared m v) = (k : Int) :: wishL m v (rm m k) 3 := by
          unfold aL
          rw [ans_shared, if_neg (okC_t hM), hk]
          show (k : Int) :: ((Kzs3.wishes m v (rm m k)).flatMap fun y => [(y.1.i : Int), (y.1.j : Int), (y.2 : Int)]) = _
          rw [wishes_flat]
        rw [e, List.map_cons]
        rfl
/-! ### the request -/
theorem int_nat {z : Int} (h : Codec.inInt 0 4294967295 z = true) : ∃ n : Nat, z = (n : Int) := by
  have q : 0 ≤ z ∧ z ≤ 4294967295 := by
    unfold Codec.inInt at h
    simpa using h
  exact ⟨z.toNat, by omega⟩
theorem ints_nats : ∀ {l : List Int}, l.all (Codec.inInt 0 4294967295) = true → ∃ f : List Nat, l = f.map fun x : Nat => (x : Int)
  | [], _ => ⟨[], rfl⟩
  | z :: r, h => by
    rw [List.all_cons, Bool.and_eq_true] at h
    obtain ⟨n, rfl⟩ := int_nat h.1
    obtain ⟨f, rfl⟩ := ints_nats h.2
    exact ⟨n :: f, rfl⟩

theorem request {K : PySem.W.Frag} {H : Hp} {xs : List V} {a : Codec.denoteAll PySem.Challenge.rw_fixedcakes_s09_shared.args} (hwi : Codec.withinAll PySem.Challenge.rw_fixedcakes_s09_shared.args a = true) (hx : DwAll K H xs (Codec.encAll PySem.Challenge.rw_fixedcakes_s09_shared.args a)) :
    spShared K xs H (fun v H' => Dw K H' v (PySem.Challenge.rw_fixedcakes_s09_shared.ret.enc (Codec.app PySem.Challenge.rw_fixedcakes_s09_shared.args PySem.Challenge.rw_fixedcakes_s09_shared.f a))) fun _ _ _ => False := by
  obtain ⟨m, v, u⟩ := a
  have q : (Codec.inInt 0 4294967295 m && ((Codec.inLen 0 200 v && v.all (Codec.inInt 0 4294967295)) && true)) = true := hwi
  simp only [Bool.and_eq_true] at q
  obtain ⟨q_m, ⟨r_v, q_v⟩, _⟩ := q
  obtain ⟨m, rfl⟩ := int_nat q_m
  obtain ⟨v, rfl⟩ := ints_nats q_v
  cases hx with
  | cons h_m hx =>
    cases hx with
    | cons h_v hx =>
      cases hx
      cases h_m
      cases h_v with
      | lst hs_v ha_v =>
        have e := L2.ints_dw _ _ ha_v
        subst e
        rw [List.map_map] at hs_v
        refine ⟨m, _, v, rfl, hs_v, fun H' p hp => ?_⟩
        have e : PyKzs3.shared (m : Int) (v.map fun x : Nat => (x : Int)) = aL (.shared m v) := by
          show aL (.shared (m : Int).toNat (Kzs3Neutral.natsOf (v.map fun x : Nat => (x : Int)))) = _
          rw [natsOf_cast]
          rfl
        show Dw K H' (.ref p) (.list ((PyKzs3.shared (m : Int) (v.map fun x : Nat => (x : Int))).map WData.int))
        rw [e]
        exact .lst (L2.SqL.of hp) (L2.dw_ints _)
end
/-! ### what the top has written -/
theorem all_mk {P : Program} {w : World} {K : PySem.W.Frag} {h : Heap} {mg : Str → Option Value} {fa : Addr} (X : K.In h) (G : h.Ns mainGlobals mg) (hfa : mg "shared" = some (.ref fa))
    {f1 : Addr} {od1 an1 : Option Addr} {sl1 : Array (Option Value)} {oc1 kV1 dc1 pm1 cd1 ct1 : Value}
    {f2 : Addr} {od2 an2 : Option Addr} {sl2 : Array (Option Value)} {oc2 kV2 dc2 pm2 cd2 ct2 : Value}
    {f3 : Addr} {od3 an3 : Option Addr} {sl3 : Array (Option Value)} {oc3 kV3 dc3 pm3 cd3 ct3 : Value}
    {f4 : Addr} {od4 an4 : Option Addr} {sl4 : Array (Option Value)} {oc4 kV4 dc4 pm4 cd4 ct4 : Value}
    {f5 : Addr} {od5 an5 : Option Addr} {sl5 : Array (Option Value)} {oc5 kV5 dc5 pm5 cd5 ct5 : Value}
    {f6 : Addr} {od6 an6 : Option Addr} {sl6 : Array (Option Value)} {oc6 kV6 dc6 pm6 cd6 ct6 : Value}
    {f7 : Addr} {od7 an7 : Option Addr} {sl7 : Array (Option Value)} {oc7 kV7 dc7 pm7 cd7 ct7 : Value}
    {f8 : Addr} {od8 an8 : Option Addr} {sl8 : Array (Option Value)} {oc8 kV8 dc8 pm8 cd8 ct8 : Value}
    {f9 : Addr} {od9 an9 : Option Addr} {sl9 : Array (Option Value)} {oc9 kV9 dc9 pm9 cd9 ct9 : Value}
    {f10 : Addr} {od10 an10 : Option Addr} {sl10 : Array (Option Value)} {oc10 kV10 dc10 pm10 cd10 ct10 : Value}
    {f11 : Addr} {od11 an11 : Option Addr} {sl11 : Array (Option Value)} {oc11 kV11 dc11 pm11 cd11 ct11 : Value}
    {f12 : Addr} {od12 an12 : Option Addr} {sl12 : Array (Option Value)} {oc12 kV12 dc12 pm12 cd12 ct12 : Value}
    {f13 : Addr} {od13 an13 : Option Addr} {sl13 : Array (Option Value)} {oc13 kV13 dc13 pm13 cd13 ct13 : Value}
    {f14 : Addr} {od14 an14 : Option Addr} {sl14 : Array (Option Value)} {oc14 kV14 dc14 pm14 cd14 ct14 : Value}
    {f15 : Addr} {od15 an15 : Option Addr} {sl15 : Array (Option Value)} {oc15 kV15 dc15 pm15 cd15 ct15 : Value}
    {f16 : Addr} {od16 an16 : Option Addr} {sl16 : Array (Option Value)} {oc16 kV16 dc16 pm16 cd16 ct16 : Value}
    {f17 : Addr} {od17 an17 : Option Addr} {sl17 : Array (Option Value)} {oc17 kV17 dc17 pm17 cd17 ct17 : Value}
    {f18 : Addr} {od18 an18 : Option Addr} {sl18 : Array (Option Value)} {oc18 kV18 dc18 pm18 cd18 ct18 : Value}
    {f19 : Addr} {od19 an19 : Option Addr} {sl19 : Array (Option Value)} {oc19 kV19 dc19 pm19 cd19 ct19 : Value}
    {f20 : Addr} {od20 an20 : Option Addr} {sl20 : Array (Option Value)} {oc20 kV20 dc20 pm20 cd20 ct20 : Value}
    {t_NOT_AS_TOLD : Tok} (g_NOT_AS_TOLD : PySem.W.nsIn K mainGlobals "NOT_AS_TOLD" = some (some (.int (-22) t_NOT_AS_TOLD)))
    {t_GREATEST_SIZE : Tok} (g_GREATEST_SIZE : PySem.W.nsIn K mainGlobals "GREATEST_SIZE" = some (some (.int (9) t_GREATEST_SIZE)))
    {t_GREATEST_WORTH : Tok} (g_GREATEST_WORTH : PySem.W.nsIn K mainGlobals "GREATEST_WORTH" = some (some (.int (1000) t_GREATEST_WORTH)))
    {t_NO_POINT : Tok} (g_NO_POINT : PySem.W.nsIn K mainGlobals "NO_POINT" = some (some (.int (-1) t_NO_POINT)))
    (a1 : PySem.W.nsIn K mainGlobals "is_size" = some (some (.ref f1))) (l1 : K.lookup f1 = some ⟨oc1, od1, .func (PySem.W.fnOf "is_size" "is_size" (defArgs s_is_size) (defBody s_is_size) (defScope s_is_size) .none kV1 dc1 pm1 an1 cd1 ct1), sl1⟩) (c1 : PySem.W.codeIn K cd1 "is_size" = true) (k1 : PySem.W.keepIn K (.ref f1) = true)
    (a2 : PySem.W.nsIn K mainGlobals "all_places" = some (some (.ref f2))) (l2 : K.lookup f2 = some ⟨oc2, od2, .func (PySem.W.fnOf "all_places" "all_places" (defArgs s_all_places) (defBody s_all_places) (defScope s_all_places) .none kV2 dc2 pm2 an2 cd2 ct2), sl2⟩) (c2 : PySem.W.codeIn K cd2 "all_places" = true) (k2 : PySem.W.keepIn K (.ref f2) = true)
    (a3 : PySem.W.nsIn K mainGlobals "place_index" = some (some (.ref f3))) (l3 : K.lookup f3 = some ⟨oc3, od3, .func (PySem.W.fnOf "place_index" "place_index" (defArgs s_place_index) (defBody s_place_index) (defScope s_place_index) .none kV3 dc3 pm3 an3 cd3 ct3), sl3⟩) (c3 : PySem.W.codeIn K cd3 "place_index" = true) (k3 : PySem.W.keepIn K (.ref f3) = true)
    (a4 : PySem.W.nsIn K mainGlobals "three_numbers" = some (some (.ref f4))) (l4 : K.lookup f4 = some ⟨oc4, od4, .func (PySem.W.fnOf "three_numbers" "three_numbers" (defArgs s_three_numbers) (defBody s_three_numbers) (defScope s_three_numbers) .none kV4 dc4 pm4 an4 cd4 ct4), sl4⟩) (c4 : PySem.W.codeIn K cd4 "three_numbers" = true) (k4 : PySem.W.keepIn K (.ref f4) = true)
    (a5 : PySem.W.nsIn K mainGlobals "all_rooms" = some (some (.ref f5))) (l5 : K.lookup f5 = some ⟨oc5, od5, .func (PySem.W.fnOf "all_rooms" "all_rooms" (defArgs s_all_rooms) (defBody s_all_rooms) (defScope s_all_rooms) .none kV5 dc5 pm5 an5 cd5 ct5), sl5⟩) (c5 : PySem.W.codeIn K cd5 "all_rooms" = true) (k5 : PySem.W.keepIn K (.ref f5) = true)
    (a6 : PySem.W.nsIn K mainGlobals "count_rooms" = some (some (.ref f6))) (l6 : K.lookup f6 = some ⟨oc6, od6, .func (PySem.W.fnOf "count_rooms" "count_rooms" (defArgs s_count_rooms) (defBody s_count_rooms) (defScope s_count_rooms) .none kV6 dc6 pm6 an6 cd6 ct6), sl6⟩) (c6 : PySem.W.codeIn K cd6 "count_rooms" = true) (k6 : PySem.W.keepIn K (.ref f6) = true)
    (a7 : PySem.W.nsIn K mainGlobals "sides_of_points" = some (some (.ref f7))) (l7 : K.lookup f7 = some ⟨oc7, od7, .func (PySem.W.fnOf "sides_of_points" "sides_of_points" (defArgs s_sides_of_points) (defBody s_sides_of_points) (defScope s_sides_of_points) .none kV7 dc7 pm7 an7 cd7 ct7), sl7⟩) (c7 : PySem.W.codeIn K cd7 "sides_of_points" = true) (k7 : PySem.W.keepIn K (.ref f7) = true)
    (a8 : PySem.W.nsIn K mainGlobals "points_by_side" = some (some (.ref f8))) (l8 : K.lookup f8 = some ⟨oc8, od8, .func (PySem.W.fnOf "points_by_side" "points_by_side" (defArgs s_points_by_side) (defBody s_points_by_side) (defScope s_points_by_side) .none kV8 dc8 pm8 an8 cd8 ct8), sl8⟩) (c8 : PySem.W.codeIn K cd8 "points_by_side" = true) (k8 : PySem.W.keepIn K (.ref f8) = true)
    (a9 : PySem.W.nsIn K mainGlobals "is_door_out" = some (some (.ref f9))) (l9 : K.lookup f9 = some ⟨oc9, od9, .func (PySem.W.fnOf "is_door_out" "is_door_out" (defArgs s_is_door_out) (defBody s_is_door_out) (defScope s_is_door_out) .none kV9 dc9 pm9 an9 cd9 ct9), sl9⟩) (c9 : PySem.W.codeIn K cd9 "is_door_out" = true) (k9 : PySem.W.keepIn K (.ref f9) = true)
    (a10 : PySem.W.nsIn K mainGlobals "next_points" = some (some (.ref f10))) (l10 : K.lookup f10 = some ⟨oc10, od10, .func (PySem.W.fnOf "next_points" "next_points" (defArgs s_next_points) (defBody s_next_points) (defScope s_next_points) .none kV10 dc10 pm10 an10 cd10 ct10), sl10⟩) (c10 : PySem.W.codeIn K cd10 "next_points" = true) (k10 : PySem.W.keepIn K (.ref f10) = true)
    (a11 : PySem.W.nsIn K mainGlobals "end_of_line" = some (some (.ref f11))) (l11 : K.lookup f11 = some ⟨oc11, od11, .func (PySem.W.fnOf "end_of_line" "end_of_line" (defArgs s_end_of_line) (defBody s_end_of_line) (defScope s_end_of_line) .none kV11 dc11 pm11 an11 cd11 ct11), sl11⟩) (c11 : PySem.W.codeIn K cd11 "end_of_line" = true) (k11 : PySem.W.keepIn K (.ref f11) = true)
    (a12 : PySem.W.nsIn K mainGlobals "first_room" = some (some (.ref f12))) (l12 : K.lookup f12 = some ⟨oc12, od12, .func (PySem.W.fnOf "first_room" "first_room" (defArgs s_first_room) (defBody s_first_room) (defScope s_first_room) .none kV12 dc12 pm12 an12 cd12 ct12), sl12⟩) (c12 : PySem.W.codeIn K cd12 "first_room" = true) (k12 : PySem.W.keepIn K (.ref f12) = true)
    (a13 : PySem.W.nsIn K mainGlobals "is_cake" = some (some (.ref f13))) (l13 : K.lookup f13 = some ⟨oc13, od13, .func (PySem.W.fnOf "is_cake" "is_cake" (defArgs s_is_cake) (defBody s_is_cake) (defScope s_is_cake) .none kV13 dc13 pm13 an13 cd13 ct13), sl13⟩) (c13 : PySem.W.codeIn K cd13 "is_cake" = true) (k13 : PySem.W.keepIn K (.ref f13) = true)
    (a14 : PySem.W.nsIn K mainGlobals "piece_worth" = some (some (.ref f14))) (l14 : K.lookup f14 = some ⟨oc14, od14, .func (PySem.W.fnOf "piece_worth" "piece_worth" (defArgs s_piece_worth) (defBody s_piece_worth) (defScope s_piece_worth) .none kV14 dc14 pm14 an14 cd14 ct14), sl14⟩) (c14 : PySem.W.codeIn K cd14 "piece_worth" = true) (k14 : PySem.W.keepIn K (.ref f14) = true)
    (a15 : PySem.W.nsIn K mainGlobals "best_piece" = some (some (.ref f15))) (l15 : K.lookup f15 = some ⟨oc15, od15, .func (PySem.W.fnOf "best_piece" "best_piece" (defArgs s_best_piece) (defBody s_best_piece) (defScope s_best_piece) .none kV15 dc15 pm15 an15 cd15 ct15), sl15⟩) (c15 : PySem.W.codeIn K cd15 "best_piece" = true) (k15 : PySem.W.keepIn K (.ref f15) = true)
    (a16 : PySem.W.nsIn K mainGlobals "whose_place" = some (some (.ref f16))) (l16 : K.lookup f16 = some ⟨oc16, od16, .func (PySem.W.fnOf "whose_place" "whose_place" (defArgs s_whose_place) (defBody s_whose_place) (defScope s_whose_place) .none kV16 dc16 pm16 an16 cd16 ct16), sl16⟩) (c16 : PySem.W.codeIn K cd16 "whose_place" = true) (k16 : PySem.W.keepIn K (.ref f16) = true)
    (a17 : PySem.W.nsIn K mainGlobals "colours_of_cake" = some (some (.ref f17))) (l17 : K.lookup f17 = some ⟨oc17, od17, .func (PySem.W.fnOf "colours_of_cake" "colours_of_cake" (defArgs s_colours_of_cake) (defBody s_colours_of_cake) (defScope s_colours_of_cake) .none kV17 dc17 pm17 an17 cd17 ct17), sl17⟩) (c17 : PySem.W.codeIn K cd17 "colours_of_cake" = true) (k17 : PySem.W.keepIn K (.ref f17) = true)
    (a18 : PySem.W.nsIn K mainGlobals "corner_of_person" = some (some (.ref f18))) (l18 : K.lookup f18 = some ⟨oc18, od18, .func (PySem.W.fnOf "corner_of_person" "corner_of_person" (defArgs s_corner_of_person) (defBody s_corner_of_person) (defScope s_corner_of_person) .none kV18 dc18 pm18 an18 cd18 ct18), sl18⟩) (c18 : PySem.W.codeIn K cd18 "corner_of_person" = true) (k18 : PySem.W.keepIn K (.ref f18) = true)
    (a19 : PySem.W.nsIn K mainGlobals "wishes_in_room" = some (some (.ref f19))) (l19 : K.lookup f19 = some ⟨oc19, od19, .func (PySem.W.fnOf "wishes_in_room" "wishes_in_room" (defArgs s_wishes_in_room) (defBody s_wishes_in_room) (defScope s_wishes_in_room) .none kV19 dc19 pm19 an19 cd19 ct19), sl19⟩) (c19 : PySem.W.codeIn K cd19 "wishes_in_room" = true) (k19 : PySem.W.keepIn K (.ref f19) = true)
    (a20 : PySem.W.nsIn K mainGlobals "shared" = some (some (.ref f20))) (l20 : K.lookup f20 = some ⟨oc20, od20, .func (PySem.W.fnOf "shared" "shared" (defArgs s_shared) (defBody s_shared) (defScope s_shared) .none kV20 dc20 pm20 an20 cd20 ct20), sl20⟩) (c20 : PySem.W.codeIn K cd20 "shared" = true) (k20 : PySem.W.keepIn K (.ref f20) = true)
    (z_len : PySem.W.nsIn K mainGlobals "len" = some none)
    (z_max : PySem.W.nsIn K mainGlobals "max" = some none)
    (z_range : PySem.W.nsIn K mainGlobals "range" = some none)
    (z_sum : PySem.W.nsIn K mainGlobals "sum" = some none)
    : ∃ fd : FuncData, (∀ (s : Shared) (us : List Value), us.length = (["m", "v"] : List Str).length → BindsTo s fd ⟨us, []⟩ ((["m", "v"] : List Str).zip us)) ∧ ∀ base : Heap, K.In base → base.Ns mainGlobals mg → FnOk P w K mg base CX0 5 fa fd ["m", "v"] (spShared K) := by
  have e := hfa.symm.trans (PySem.W.mg_of X G a20)
  cases e
  have F_is_size := fun_mk (st := s_is_size) l1 c1 k1
  have m_is_size := PySem.W.mg_of X G a1
  have b_is_size := F_is_size.binds (ps := ["m"]) fun _ _ _ _ _ _ us hl => match us, hl with | [_], _ => rfl
  have F_all_places := fun_mk (st := s_all_places) l2 c2 k2
  have m_all_places := PySem.W.mg_of X G a2
  have b_all_places := F_all_places.binds (ps := ["m"]) fun _ _ _ _ _ _ us hl => match us, hl with | [_], _ => rfl
  have F_place_index := fun_mk (st := s_place_index) l3 c3 k3
  have m_place_index := PySem.W.mg_of X G a3
  have b_place_index := F_place_index.binds (ps := ["m", "place"]) fun _ _ _ _ _ _ us hl => match us, hl with | [_, _], _ => rfl
  have F_three_numbers := fun_mk (st := s_three_numbers) l4 c4 k4
  have m_three_numbers := PySem.W.mg_of X G a4
  have b_three_numbers := F_three_numbers.binds (ps := ["m", "place"]) fun _ _ _ _ _ _ us hl => match us, hl with | [_, _], _ => rfl
  have F_all_rooms := fun_mk (st := s_all_rooms) l5 c5 k5
  have m_all_rooms := PySem.W.mg_of X G a5
  have b_all_rooms := F_all_rooms.binds (ps := ["m"]) fun _ _ _ _ _ _ us hl => match us, hl with | [_], _ => rfl
  have F_count_rooms := fun_mk (st := s_count_rooms) l6 c6 k6
  have m_count_rooms := PySem.W.mg_of X G a6
  have b_count_rooms := F_count_rooms.binds (ps := ["m"]) fun _ _ _ _ _ _ us hl => match us, hl with | [_], _ => rfl
  have F_sides_of_points := fun_mk (st := s_sides_of_points) l7 c7 k7
  have m_sides_of_points := PySem.W.mg_of X G a7
  have b_sides_of_points := F_sides_of_points.binds (ps := ["m"]) fun _ _ _ _ _ _ us hl => match us, hl with | [_], _ => rfl
  have F_points_by_side := fun_mk (st := s_points_by_side) l8 c8 k8
  have m_points_by_side := PySem.W.mg_of X G a8
  have b_points_by_side := F_points_by_side.binds (ps := ["sides"]) fun _ _ _ _ _ _ us hl => match us, hl with | [_], _ => rfl
  have F_is_door_out := fun_mk (st := s_is_door_out) l9 c9 k9
  have m_is_door_out := PySem.W.mg_of X G a9
  have b_is_door_out := F_is_door_out.binds (ps := ["m", "colours", "side"]) fun _ _ _ _ _ _ us hl => match us, hl with | [_, _, _], _ => rfl
  have F_next_points := fun_mk (st := s_next_points) l10 c10 k10
  have m_next_points := PySem.W.mg_of X G a10
  have b_next_points := F_next_points.binds (ps := ["m", "colours"]) fun _ _ _ _ _ _ us hl => match us, hl with | [_, _], _ => rfl
  have F_end_of_line := fun_mk (st := s_end_of_line) l11 c11 k11
  have m_end_of_line := PySem.W.mg_of X G a11
  have b_end_of_line := F_end_of_line.binds (ps := ["following", "start"]) fun _ _ _ _ _ _ us hl => match us, hl with | [_, _], _ => rfl
  have F_first_room := fun_mk (st := s_first_room) l12 c12 k12
  have m_first_room := PySem.W.mg_of X G a12
  have b_first_room := F_first_room.binds (ps := ["m", "colours"]) fun _ _ _ _ _ _ us hl => match us, hl with | [_, _], _ => rfl
  have F_is_cake := fun_mk (st := s_is_cake) l13 c13 k13
  have m_is_cake := PySem.W.mg_of X G a13
  have b_is_cake := F_is_cake.binds (ps := ["m", "v"]) fun _ _ _ _ _ _ us hl => match us, hl with | [_, _], _ => rfl
  have F_piece_worth := fun_mk (st := s_piece_worth) l14 c14 k14
  have m_piece_worth := PySem.W.mg_of X G a14
  have b_piece_worth := F_piece_worth.binds (ps := ["m", "v", "c", "place", "k"]) fun _ _ _ _ _ _ us hl => match us, hl with | [_, _, _, _, _], _ => rfl
  have F_best_piece := fun_mk (st := s_best_piece) l15 c15 k15
  have m_best_piece := PySem.W.mg_of X G a15
  have b_best_piece := F_best_piece.binds (ps := ["m", "v", "c", "place"]) fun _ _ _ _ _ _ us hl => match us, hl with | [_, _, _, _], _ => rfl
  have F_whose_place := fun_mk (st := s_whose_place) l16 c16 k16
  have m_whose_place := PySem.W.mg_of X G a16
  have b_whose_place := F_whose_place.binds (ps := ["place"]) fun _ _ _ _ _ _ us hl => match us, hl with | [_], _ => rfl
  have F_colours_of_cake := fun_mk (st := s_colours_of_cake) l17 c17 k17
  have m_colours_of_cake := PySem.W.mg_of X G a17
  have b_colours_of_cake := F_colours_of_cake.binds (ps := ["m", "v"]) fun _ _ _ _ _ _ us hl => match us, hl with | [_, _], _ => rfl
  have F_corner_of_person := fun_mk (st := s_corner_of_person) l18 c18 k18
  have m_corner_of_person := PySem.W.mg_of X G a18
  have b_corner_of_person := F_corner_of_person.binds (ps := ["room", "c"]) fun _ _ _ _ _ _ us hl => match us, hl with | [_, _], _ => rfl
  have F_wishes_in_room := fun_mk (st := s_wishes_in_room) l19 c19 k19
  have m_wishes_in_room := PySem.W.mg_of X G a19
  have b_wishes_in_room := F_wishes_in_room.binds (ps := ["m", "v", "room"]) fun _ _ _ _ _ _ us hl => match us, hl with | [_, _, _], _ => rfl
  have F_shared := fun_mk (st := s_shared) l20 c20 k20
  have m_shared := PySem.W.mg_of X G a20
  have m_NOT_AS_TOLD := PySem.W.mg_of X G g_NOT_AS_TOLD
  have m_GREATEST_SIZE := PySem.W.mg_of X G g_GREATEST_SIZE
  have m_GREATEST_WORTH := PySem.W.mg_of X G g_GREATEST_WORTH
  have m_NO_POINT := PySem.W.mg_of X G g_NO_POINT
  have m_len := PySem.W.mg_none_of X G z_len
  have m_max := PySem.W.mg_none_of X G z_max
  have m_range := PySem.W.mg_none_of X G z_range
  have m_sum := PySem.W.mg_none_of X G z_sum
  refine ⟨PySem.W.fnOf "shared" "shared" (defArgs s_shared) (defBody s_shared) (defScope s_shared) .none kV20 dc20 pm20 an20 cd20 ct20, fun s us hu => match us, hu with | [_, _], _ => .of_eq rfl, fun base _ _ => ?_⟩
  have G_is_size := ok_is_size (P := P) (w := w) (mg := mg) (base := base) F_is_size m_GREATEST_SIZE
  have G_is_cake := ok_is_cake (P := P) (w := w) (mg := mg) (base := base) F_is_cake F_is_size G_is_size b_is_size m_is_size m_GREATEST_WORTH m_len m_max
  have G_three_numbers := ok_three_numbers (P := P) (w := w) (mg := mg) (base := base) F_three_numbers
  have G_piece_worth := ok_piece_worth (P := P) (w := w) (mg := mg) (base := base) F_piece_worth F_three_numbers G_three_numbers b_three_numbers m_three_numbers m_sum
  have G_best_piece := ok_best_piece (P := P) (w := w) (mg := mg) (base := base) F_best_piece F_three_numbers F_piece_worth G_three_numbers G_piece_worth b_three_numbers b_piece_worth m_three_numbers m_piece_worth m_range
  have G_whose_place := ok_whose_place (P := P) (w := w) (mg := mg) (base := base) F_whose_place
  have G_all_places := ok_all_places (P := P) (w := w) (mg := mg) (base := base) F_all_places m_range
  have G_colours_of_cake := ok_colours_of_cake (P := P) (w := w) (mg := mg) (base := base) F_colours_of_cake F_best_piece F_whose_place F_all_places G_best_piece G_whose_place G_all_places b_best_piece b_whose_place b_all_places m_best_piece m_whose_place m_all_places
  have G_count_rooms := ok_count_rooms (P := P) (w := w) (mg := mg) (base := base) F_count_rooms
  have G_all_rooms := ok_all_rooms (P := P) (w := w) (mg := mg) (base := base) F_all_rooms m_range
  have G_sides_of_points := ok_sides_of_points (P := P) (w := w) (mg := mg) (base := base) F_sides_of_points F_all_rooms G_all_rooms b_all_rooms m_all_rooms m_range
  have G_points_by_side := ok_points_by_side (P := P) (w := w) (mg := mg) (base := base) F_points_by_side m_len m_range
  have G_place_index := ok_place_index (P := P) (w := w) (mg := mg) (base := base) F_place_index
  have G_is_door_out := ok_is_door_out (P := P) (w := w) (mg := mg) (base := base) F_is_door_out F_place_index G_place_index b_place_index m_place_index
  have G_next_points := ok_next_points (P := P) (w := w) (mg := mg) (base := base) F_next_points F_sides_of_points F_points_by_side F_is_door_out G_sides_of_points G_points_by_side G_is_door_out b_sides_of_points b_points_by_side b_is_door_out m_sides_of_points m_points_by_side m_is_door_out m_NO_POINT m_len
  have G_end_of_line := ok_end_of_line (P := P) (w := w) (mg := mg) (base := base) F_end_of_line m_NO_POINT
  have G_first_room := ok_first_room (P := P) (w := w) (mg := mg) (base := base) F_first_room F_count_rooms F_next_points F_end_of_line G_count_rooms G_next_points G_end_of_line b_count_rooms b_next_points b_end_of_line m_count_rooms m_next_points m_end_of_line m_NO_POINT m_range
  have G_corner_of_person := ok_corner_of_person (P := P) (w := w) (mg := mg) (base := base) F_corner_of_person F_whose_place G_whose_place b_whose_place m_whose_place
  have G_wishes_in_room := ok_wishes_in_room (P := P) (w := w) (mg := mg) (base := base) F_wishes_in_room F_corner_of_person F_best_piece G_corner_of_person G_best_piece b_corner_of_person b_best_piece m_corner_of_person m_best_piece m_range
  exact ok_shared (P := P) (w := w) (mg := mg) (base := base) F_shared F_is_cake F_colours_of_cake F_first_room F_wishes_in_room F_all_rooms G_is_cake G_colours_of_cake G_first_room G_wishes_in_room G_all_rooms b_is_cake b_colours_of_cake b_first_room b_wishes_in_room b_all_rooms m_is_cake m_colours_of_cake m_first_room m_wishes_in_room m_all_rooms m_NOT_AS_TOLD
end Fc
open PySem PySem.W PyProof.Rows
set_option maxRecDepth 100000 in
set_option maxHeartbeats 0 in
theorem PySem.Challenge.cw_fixedcakes_s09_shared_holds : PySem.Challenge.rw_fixedcakes_s09_shared.Holds := by
  w_on; k_headS; (case hw => exact ⟨[.int 0, .list []], by decide +kernel, by decide +kernel⟩)
  k_fillS
  refine L2.walk_specK (r := PySem.Challenge.rw_fixedcakes_s09_shared) (k := 5) (CX := L2.CX0) (ps := ["m", "v"]) (sp := Fc.spShared) (by decide +kernel) rfl rfl ⟨rfl, by decide, by decide⟩ (fun w h Y => PySem.W.kIn_of Y) ?F ?S (fun _ _ _ _ z => z)
  case F =>
    intro w mg fa h Y KX G hmg
    refine' Fc.all_mk KX G hmg ?g_NOT_AS_TOLD ?g_GREATEST_SIZE ?g_GREATEST_WORTH ?g_NO_POINT ?a1 ?l1 ?c1 ?k1 ?a2 ?l2 ?c2 ?k2 ?a3 ?l3 ?c3 ?k3 ?a4 ?l4 ?c4 ?k4 ?a5 ?l5 ?c5 ?k5 ?a6 ?l6 ?c6 ?k6 ?a7 ?l7 ?c7 ?k7 ?a8 ?l8 ?c8 ?k8 ?a9 ?l9 ?c9 ?k9 ?a10 ?l10 ?c10 ?k10 ?a11 ?l11 ?c11 ?k11 ?a12 ?l12 ?c12 ?k12 ?a13 ?l13 ?c13 ?k13 ?a14 ?l14 ?c14 ?k14 ?a15 ?l15 ?c15 ?k15 ?a16 ?l16 ?c16 ?k16 ?a17 ?l17 ?c17 ?k17 ?a18 ?l18 ?c18 ?k18 ?a19 ?l19 ?c19 ?k19 ?a20 ?l20 ?c20 ?k20 ?z_len ?z_max ?z_range ?z_sum
    (case g_NOT_AS_TOLD => k_is)
    (case g_GREATEST_SIZE => k_is)
    (case g_GREATEST_WORTH => k_is)
    (case g_NO_POINT => k_is)
    (case a1 => k_is)
    (case l1 => k_is)
    (case c1 => k_is)
    (case k1 => k_is)
    (case a2 => k_is)
    (case l2 => k_is)
    (case c2 => k_is)
    (case k2 => k_is)
    (case a3 => k_is)
    (case l3 => k_is)
    (case c3 => k_is)
    (case k3 => k_is)
    (case a4 => k_is)
    (case l4 => k_is)
    (case c4 => k_is)
    (case k4 => k_is)
    (case a5 => k_is)
    (case l5 => k_is)
    (case c5 => k_is)
    (case k5 => k_is)
    (case a6 => k_is)
    (case l6 => k_is)
    (case c6 => k_is)
    (case k6 => k_is)
    (case a7 => k_is)
    (case l7 => k_is)
    (case c7 => k_is)
    (case k7 => k_is)
    (case a8 => k_is)
    (case l8 => k_is)
    (case c8 => k_is)
    (case k8 => k_is)
    (case a9 => k_is)
    (case l9 => k_is)
    (case c9 => k_is)
    (case k9 => k_is)
    (case a10 => k_is)
    (case l10 => k_is)
    (case c10 => k_is)
    (case k10 => k_is)
    (case a11 => k_is)
    (case l11 => k_is)
    (case c11 => k_is)
    (case k11 => k_is)
    (case a12 => k_is)
    (case l12 => k_is)
    (case c12 => k_is)
    (case k12 => k_is)
    (case a13 => k_is)
    (case l13 => k_is)
    (case c13 => k_is)
    (case k13 => k_is)
    (case a14 => k_is)
    (case l14 => k_is)
    (case c14 => k_is)
    (case k14 => k_is)
    (case a15 => k_is)
    (case l15 => k_is)
    (case c15 => k_is)
    (case k15 => k_is)
    (case a16 => k_is)
    (case l16 => k_is)
    (case c16 => k_is)
    (case k16 => k_is)
    (case a17 => k_is)
    (case l17 => k_is)
    (case c17 => k_is)
    (case k17 => k_is)
    (case a18 => k_is)
    (case l18 => k_is)
    (case c18 => k_is)
    (case k18 => k_is)
    (case a19 => k_is)
    (case l19 => k_is)
    (case c19 => k_is)
    (case k19 => k_is)
    (case a20 => k_is)
    (case l20 => k_is)
    (case c20 => k_is)
    (case k20 => k_is)
    (case z_len => k_is)
    (case z_max => k_is)
    (case z_range => k_is)
    (case z_sum => k_is)
  case S =>
    intro K H xs a hO hwi hask hx
    exact Fc.request hwi hx
#print axioms PySem.Challenge.cw_fixedcakes_s09_shared_holds
