import PyProof.Rows.All
import Wide.All
import OpenK.AllK
import Wide.FinOn
import Open.SpecLaws
import KE.OsHead
import KE.OsGo
import HandS.Comp
import HandS.Dict
import HandS.ForSpec
import KE.KeyNested
import PyProof.DictRoadsH
import KE.KTupSum
import PySem.Challenge.RW_fixedcakes_s05_apart
set_option Elab.async false
set_option linter.all false
set_option maxRecDepth 100000
set_option maxHeartbeats 4000000
namespace Fc
section
open Kzs2 (places number noOf)
open Kzs3 (okM okMap sent keeps)
abbrev Pl := Kzs2.Place
def cnt (m : Nat) : Nat := (places m).length
theorem okM_iff {m : Nat} : okM m = true ↔ 1 ≤ m ∧ m ≤ 9 := by
  unfold okM Kzs3.most
  rw [Bool.and_eq_true, decide_eq_true_iff, decide_eq_true_iff]
theorem cnt_all : ∀ m : Nat, m < 10 → ((m : Int) + 1) * ((m : Int) + 2) / 2 = ((cnt m : Nat) : Int) := by decide +kernel
theorem cnt_le : ∀ m, m < 10 → cnt m ≤ 55 := by decide +kernel
theorem ix_all : ∀ m : Nat, m < 10 → ∀ j : Nat, j < 10 → ∀ i : Nat, i < 10 → i + j ≤ m → (j : Int) * ((m : Int) + 1) - (j : Int) * ((j : Int) - 1) / 2 + (i : Int) = ((noOf m ⟨i, j⟩ : Nat) : Int) := by decide +kernel
theorem no_lt : ∀ m, m < 10 → ∀ j, j < 10 → ∀ i, i < 10 → i + j ≤ m → noOf m ⟨i, j⟩ < cnt m := by decide +kernel
theorem cnt_int {m : Nat} (h : m ≤ 9) : ((m : Int) + 1) * ((m : Int) + 2) / 2 = ((cnt m : Nat) : Int) := cnt_all m (by omega)
theorem ix_int {m i j : Nat} (h : m ≤ 9) (hp : i + j ≤ m) : (j : Int) * ((m : Int) + 1) - (j : Int) * ((j : Int) - 1) / 2 + (i : Int) = ((noOf m ⟨i, j⟩ : Nat) : Int) := ix_all m (by omega) j (by omega) i (by omega) hp
theorem no_cnt {m : Nat} {p : Pl} (h : m ≤ 9) (hp : p.i + p.j ≤ m) : noOf m p < cnt m := no_lt m (by omega) p.j (by omega) p.i (by omega) hp
theorem okMap_iff {m : Nat} {f : List Nat} : okMap m f = true ↔ f.length = 2 * cnt m ∧ ∀ n, n < cnt m → f.getD (2 * n) 0 + f.getD (2 * n + 1) 0 ≤ m := by
  unfold okMap cnt
  rw [Bool.and_eq_true, beq_iff_eq, List.all_eq_true]
  constructor
  · rintro ⟨h1, h2⟩
    exact ⟨h1, fun n hn => of_decide_eq_true (h2 n (List.mem_range.mpr hn))⟩
  · rintro ⟨h1, h2⟩
    exact ⟨h1, fun n hn => decide_eq_true (h2 n (List.mem_range.mp hn))⟩
theorem sent_ok {m : Nat} {f : List Nat} {p : Pl} (h : m ≤ 9) (ho : okMap m f = true) (hp : p.i + p.j ≤ m) : (sent m f p).i + (sent m f p).j ≤ m :=
  (okMap_iff.mp ho).2 _ (no_cnt h hp)
theorem mem_places {m : Nat} {p : Pl} : p ∈ places m ↔ p.i + p.j ≤ m := by
  unfold places
  rw [List.mem_flatMap]
  constructor
  · rintro ⟨j, hj, h⟩
    obtain ⟨i, hi, rfl⟩ := List.mem_map.mp h
    have := List.mem_range.mp hi
    have := List.mem_range.mp hj
    show i + j ≤ m
    omega
  · intro h
    refine ⟨p.j, List.mem_range.mpr (by omega), List.mem_map.mpr ⟨p.i, List.mem_range.mpr (by omega), rfl⟩⟩
/-- the test of the colour's search -/
def fits (m : Nat) (f : List Nat) (p : Pl) (k : Nat) : Bool := number m p k != 0 && decide (number m (sent m f p) k ≤ number m p k)
def fitting (m : Nat) (f : List Nat) (p : Pl) (n : Nat) : List Nat := (List.range n).filter (fits m f p)
theorem keeps_eq (m : Nat) (f : List Nat) (p : Pl) : keeps m f p = ((List.range 3).find? (fits m f p)).getD 0 := rfl
theorem fit_some {m : Nat} {f : List Nat} {p : Pl} (h1 : 1 ≤ m) (hp : p.i + p.j ≤ m) (hs : (sent m f p).i + (sent m f p).j ≤ m) : ∃ c, c < 3 ∧ fits m f p c = true := by
  by_cases a0 : fits m f p 0 = true
  · exact ⟨0, by omega, a0⟩
  by_cases a1 : fits m f p 1 = true
  · exact ⟨1, by omega, a1⟩
  by_cases a2 : fits m f p 2 = true
  · exact ⟨2, by omega, a2⟩
  exfalso
  unfold fits number at a0 a1 a2
  simp at a0 a1 a2
  omega
theorem fitting_at {m : Nat} {f : List Nat} {p : Pl} (h1 : 1 ≤ m) (hp : p.i + p.j ≤ m) (hs : (sent m f p).i + (sent m f p).j ≤ m) : (fitting m f p 3)[0]? = some (keeps m f p) := by
  rw [← List.head?_eq_getElem?]
  unfold fitting
  rw [List.head?_filter, keeps_eq]
  cases e : (List.range 3).find? (fits m f p) with
  | some c => rfl
  | none =>
    obtain ⟨c, hc, hf⟩ := fit_some h1 hp hs
    exact absurd hf (by simpa using List.find?_eq_none.mp e c (List.mem_range.mpr hc))
theorem fitting_succ (m : Nat) (f : List Nat) (p : Pl) (n : Nat) : fitting m f p (n + 1) = fitting m f p n ++ (if fits m f p n = true then [n] else []) := by
  unfold fitting
  rw [List.range_succ, List.filter_append]
  by_cases h : fits m f p n = true
  · rw [if_pos h, List.filter_cons_of_pos h]; rfl
  · rw [if_neg h, List.filter_cons_of_neg h]; rfl
theorem fitting_len (m : Nat) (f : List Nat) (p : Pl) (n : Nat) : (fitting m f p n).length ≤ n := by
  unfold fitting
  exact Nat.le_trans (List.length_filter_le _ _) (Nat.le_of_eq List.length_range)
/-- the places as the two loops make them: j rows whole, then i places of row j -/
def rowsTo (m j : Nat) : List Pl := (List.range j).flatMap fun j => (List.range (m + 1 - j)).map fun i => ⟨i, j⟩
def partTo (m j i : Nat) : List Pl := rowsTo m j ++ (List.range i).map fun i => ⟨i, j⟩
theorem rowsTo_succ (m j : Nat) : rowsTo m (j + 1) = partTo m j (m + 1 - j) := by
  unfold rowsTo partTo
  rw [List.range_succ, List.flatMap_append]
  rw [List.flatMap_cons, List.flatMap_nil, List.append_nil]
  rfl
theorem partTo_zero (m j : Nat) : partTo m j 0 = rowsTo m j := by
  unfold partTo
  rw [List.range_zero, List.map_nil, List.append_nil]
theorem partTo_succ (m j i : Nat) : partTo m j (i + 1) = partTo m j i ++ [⟨i, j⟩] := by
  unfold partTo
  rw [List.range_succ, List.map_append, List.append_assoc]
  rfl
theorem rowsTo_len (m : Nat) : ∀ j, (rowsTo m j).length ≤ j * (m + 1)
  | 0 => by unfold rowsTo; simp
  | j + 1 => by
    rw [rowsTo_succ]
    unfold partTo
    rw [List.length_append, List.length_map, List.length_range, Nat.succ_mul]
    have := rowsTo_len m j
    omega
theorem partTo_len {m j i : Nat} (hm : m ≤ 9) (hj : j ≤ m) (hi : i ≤ m + 1) : (partTo m j i).length ≤ 100 := by
  unfold partTo
  rw [List.length_append, List.length_map, List.length_range]
  have h := rowsTo_len m j
  have : j * (m + 1) ≤ 9 * 10 := Nat.mul_le_mul (by omega) (by omega)
  omega
theorem take_snoc {α : Type} : ∀ {l : List α} {i : Nat} {x : α}, l[i]? = some x → l.take (i + 1) = l.take i ++ [x]
  | [], i, x, h => by simp at h
  | a :: l, 0, x, h => by
    have e : a = x := Option.some.inj h
    subst e
    rfl
  | a :: l, i + 1, x, h => by
    have ih := take_snoc (l := l) (i := i) (x := x) h
    show a :: l.take (i + 1) = a :: l.take i ++ [x]
    rw [ih]
    rfl
/-! ### the answers -/
def aL (c : Kzs3.Call) : List Int := (Kzs3.answer c).value :: (Kzs3.answer c).nums
def okAll (m : Nat) (f : List Nat) : Bool := okM m && okMap m f
theorem okAll_f {m : Nat} {f : List Nat} (h : okAll m f = false) : okM m = false ∨ okMap m f = false := by
  unfold okAll at h
  rw [Bool.and_eq_false_iff] at h
  exact h
theorem okAll_t {m : Nat} {f : List Nat} (h : okAll m f = true) : ¬ (okM m = false ∨ okMap m f = false) := by
  unfold okAll at h
  rw [Bool.and_eq_true] at h
  rw [h.1, h.2]
  simp
theorem ans_shifts (m i j : Nat) (f : List Nat) : Kzs3.answer (.shifts m i j f) = if okM m = false ∨ okMap m f = false then Kzs1.say (-22) else if m < i + j then Kzs1.say (-2) else Kzs1.told (Kzs3.shifts m f ⟨i, j⟩) := rfl
theorem ans_colours (m : Nat) (f : List Nat) : Kzs3.answer (.mapColours m f) = if okM m = false ∨ okMap m f = false then Kzs1.say (-22) else Kzs1.told (Kzs1.ints (Kzs3.mapColours m f)) := rfl
theorem ans_fixed (m : Nat) (f : List Nat) : Kzs3.answer (.fixed m f) = if okM m = false ∨ okMap m f = false then Kzs1.say (-22) else ⟨((Kzs3.fixed m f).length : Nat), (Kzs3.fixed m f).flatMap fun p => [(p.i : Int), (p.j : Int)]⟩ := rfl
theorem natsOf_cast : ∀ f : List Nat, Kzs3Neutral.natsOf (f.map fun x : Nat => (x : Int)) = f
  | [] => rfl
  | a :: r => by
    show ((a : Int).toNat) :: Kzs3Neutral.natsOf (r.map fun x : Nat => (x : Int)) = a :: r
    rw [natsOf_cast r]
    rfl
end
section
section
open Kzs2 (places number noOf Room corners rooms sides colour)
open Kzs3 (okM okCake slice from1 worth choice owner cakeColours wishes envy)
/-! ### the most of a list -/
theorem max_ge : ∀ (l : List Nat) (a : Nat), a ≤ l.foldl max a
  | [], a => Nat.le_refl _
  | x :: l, a => Nat.le_trans (Nat.le_max_left a x) (max_ge l (max a x))
theorem max_mem : ∀ (l : List Nat) (a : Nat), ∀ x ∈ l, x ≤ l.foldl max a
  | [], _, x, h => by cases h
  | y :: l, a, x, h => by
    rcases List.mem_cons.mp h with rfl | h
    · exact Nat.le_trans (Nat.le_max_right a x) (max_ge l (max a x))
    · exact max_mem l (max a y) x h
theorem max_is : ∀ (l : List Nat) (a : Nat), l.foldl max a = a ∨ l.foldl max a ∈ l
  | [], _ => .inl rfl
  | y :: l, a => by
    rcases max_is l (max a y) with e | e
    · by_cases h : a ≤ y
      · rw [Nat.max_eq_right h] at e
        exact .inr (by show l.foldl max (max a y) ∈ y :: l; rw [Nat.max_eq_right h, e]; exact List.mem_cons_self)
      · rw [Nat.max_eq_left (by omega)] at e
        exact .inl (by show l.foldl max (max a y) = a; rw [Nat.max_eq_left (by omega), e])
    · exact .inr (List.mem_cons_of_mem _ e)
theorem max_eq {l : List Nat} {d : Nat} (h1 : ∀ x ∈ l, x ≤ d) (h2 : d = 0 ∨ d ∈ l) : l.foldl max 0 = d := by
  refine Nat.le_antisymm ?_ ?_
  · rcases max_is l 0 with e | e
    · rw [e]; exact Nat.zero_le _
    · exact h1 _ e
  · rcases h2 with rfl | h
    · exact Nat.zero_le _
    · exact max_mem l 0 d h
/-! ### the piece that one likes best -/
def likes (m : Nat) (v : List Nat) (c : Nat) (p : Pl) : Option Nat → Nat → Option Nat := fun b k => match b with
  | none => some k
  | some a => if worth m v c p a < worth m v c p k then some k else some a
def full (m : Nat) (p : Pl) : List Nat := (List.range 3).filter fun k => number m p k != 0
theorem choice_fold (m : Nat) (v : List Nat) (c : Nat) (p : Pl) : choice m v c p = ((full m p).foldl (likes m v c p) none).getD 0 := rfl
/-- of a row that rises, from a on: the first that is worth most -/
theorem likes_from (m : Nat) (v : List Nat) (c : Nat) (p : Pl) : ∀ (l : List Nat) (a : Nat), ∃ k, l.foldl (likes m v c p) (some a) = some k ∧ k ∈ a :: l ∧ (∀ x ∈ a :: l, worth m v c p x ≤ worth m v c p k) ∧
    ((a :: l).Pairwise (· < ·) → ∀ x ∈ a :: l, x < k → worth m v c p x < worth m v c p k)
  | [], a => ⟨a, rfl, List.mem_cons_self, fun x hx => by
      have : x = a := by simpa using hx
      rw [this]
      exact Nat.le_refl _, fun _ x hx hlt => by
      have : x = a := by simpa using hx
      omega⟩
  | y :: l, a => by
    by_cases h : worth m v c p a < worth m v c p y
    · obtain ⟨k, e, hk, hm, hf⟩ := likes_from m v c p l y
      refine ⟨k, ?_, List.mem_cons_of_mem _ hk, ?_, ?_⟩
      · show l.foldl (likes m v c p) (if worth m v c p a < worth m v c p y then some y else some a) = some k
        rw [if_pos h]
        exact e
      · intro x hx
        rcases List.mem_cons.mp hx with rfl | hx
        · have := hm y List.mem_cons_self
          omega
        · exact hm x hx
      · intro hp x hx hlt
        have hp' := (List.pairwise_cons.mp hp).2
        rcases List.mem_cons.mp hx with rfl | hx
        · have := hm y List.mem_cons_self
          omega
        · exact hf hp' x hx hlt
    · obtain ⟨k, e, hk, hm, hf⟩ := likes_from m v c p l a
      refine ⟨k, ?_, ?_, ?_, ?_⟩
      · show l.foldl (likes m v c p) (if worth m v c p a < worth m v c p y then some y else some a) = some k
        rw [if_neg h]
        exact e
      · rcases List.mem_cons.mp hk with rfl | hk
        · exact List.mem_cons_self
        · exact List.mem_cons_of_mem _ (List.mem_cons_of_mem _ hk)
      · intro x hx
        rcases List.mem_cons.mp hx with rfl | hx
        · exact hm _ List.mem_cons_self
        · rcases List.mem_cons.mp hx with rfl | hx
          · have := hm a List.mem_cons_self
            omega
          · exact hm x (List.mem_cons_of_mem _ hx)
      · intro hp x hx hlt
        have h1 := (List.pairwise_cons.mp hp).1
        have h2 := (List.pairwise_cons.mp hp).2
        have hp' : (a :: l).Pairwise (· < ·) := List.pairwise_cons.mpr ⟨fun z hz => h1 z (List.mem_cons_of_mem _ hz), (List.pairwise_cons.mp h2).2⟩
        rcases List.mem_cons.mp hx with rfl | hx
        · exact hf hp' _ List.mem_cons_self hlt
        · rcases List.mem_cons.mp hx with rfl | hx
          · have ha : a < x := h1 x List.mem_cons_self
            have := hf hp' a List.mem_cons_self (by omega)
            omega
          · exact hf hp' x (List.mem_cons_of_mem _ hx) hlt
theorem mem_full {m k : Nat} {p : Pl} : k ∈ full m p ↔ k < 3 ∧ number m p k ≠ 0 := by
  unfold full
  rw [List.mem_filter, List.mem_range, bne_iff_ne]
theorem full_rises (m : Nat) (p : Pl) : (full m p).Pairwise (· < ·) := List.Pairwise.filter _ List.pairwise_lt_range
theorem full_some {m : Nat} {p : Pl} (h1 : 1 ≤ m) (hp : p.i + p.j ≤ m) : ∃ k, k ∈ full m p := by
  by_cases a : p.i = 0
  · by_cases b : p.j = 0
    · exact ⟨2, mem_full.mpr ⟨by omega, by show m - p.i - p.j ≠ 0; omega⟩⟩
    · exact ⟨1, mem_full.mpr ⟨by omega, b⟩⟩
  · exact ⟨0, mem_full.mpr ⟨by omega, a⟩⟩
theorem choice_is {m : Nat} {v : List Nat} {c : Nat} {p : Pl} (h1 : 1 ≤ m) (hp : p.i + p.j ≤ m) : choice m v c p ∈ full m p ∧ (∀ x ∈ full m p, worth m v c p x ≤ worth m v c p (choice m v c p)) ∧ ∀ x ∈ full m p, x < choice m v c p → worth m v c p x < worth m v c p (choice m v c p) := by
  rw [choice_fold]
  have hr := full_rises m p
  obtain ⟨z, hz⟩ := full_some h1 hp
  cases e : full m p with
  | nil => rw [e] at hz; cases hz
  | cons a l =>
    rw [e] at hr
    obtain ⟨k, e1, e2, e3, e4⟩ := likes_from m v c p l a
    have e5 : ((a :: l).foldl (likes m v c p) none).getD 0 = k := by
      show (l.foldl (likes m v c p) (some a)).getD 0 = k
      rw [e1]
      rfl
    rw [e5]
    exact ⟨e2, e3, e4 hr⟩
theorem choice_eq {m : Nat} {v : List Nat} {c k : Nat} {p : Pl} (h1 : 1 ≤ m) (hp : p.i + p.j ≤ m) (hk : k < 3) (hn : number m p k ≠ 0) (ha : ∀ x, x < 3 → number m p x ≠ 0 → worth m v c p x ≤ worth m v c p k)
    (hb : ∀ x, x < k → number m p x ≠ 0 → worth m v c p x < worth m v c p k) : choice m v c p = k := by
  obtain ⟨c1, c2, c3⟩ := choice_is (v := v) (c := c) h1 hp
  obtain ⟨d1, d2⟩ := mem_full.mp c1
  have a1 := ha _ d1 d2
  have a2 := c2 k (mem_full.mpr ⟨hk, hn⟩)
  by_cases h : choice m v c p < k
  · have := hb _ h d2
    omega
  · by_cases h' : k < choice m v c p
    · have := c3 k (mem_full.mpr ⟨hk, hn⟩) h'
      omega
    · omega
/-! ### what a piece is worth -/
theorem fold_sum : ∀ (l : List Nat) (a : Nat), l.foldl (· + ·) a = a + l.sum
  | [], a => by simp
  | x :: l, a => by
    rw [List.foldl_cons, fold_sum l, List.sum_cons]
    omega
def pieceL (m : Nat) (v : List Nat) (c : Nat) (p : Pl) (k : Nat) : List Nat := (List.range (number m p k)).map fun s => slice m v c (from1 p k + s)
theorem worth_sum (m : Nat) (v : List Nat) (c : Nat) (p : Pl) (k : Nat) : worth m v c p k = (pieceL m v c p k).sum := by
  show (pieceL m v c p k).foldl (· + ·) 0 = _
  rw [fold_sum, Nat.zero_add]
theorem okCake_iff {m : Nat} {v : List Nat} : okCake m v = true ↔ v.length = 3 * m ∧ ∀ x ∈ v, x ≤ 1000 := by
  unfold okCake
  rw [Bool.and_eq_true, beq_iff_eq, List.all_eq_true]
  constructor
  · rintro ⟨a, b⟩
    exact ⟨a, fun x hx => of_decide_eq_true (b x hx)⟩
  · rintro ⟨a, b⟩
    exact ⟨a, fun x hx => decide_eq_true (b x hx)⟩
theorem range_take {α : Type} (v : List α) (d : α) (s n : Nat) (h : s + n ≤ v.length) : (List.range n).map (fun i => v.getD (s + i) d) = (v.drop s).take n := by
  refine List.ext_getElem? fun i => ?_
  rw [List.getElem?_map, List.getElem?_take]
  by_cases hi : i < n
  · rw [List.getElem?_range hi, if_pos hi, List.getElem?_drop, List.getElem?_eq_getElem (by omega)]
    show some (v.getD (s + i) d) = _
    rw [List.getD_eq_getElem?_getD, List.getElem?_eq_getElem (by omega)]
    rfl
  · rw [if_neg hi, List.getElem?_eq_none (by rw [List.length_range]; omega)]
    rfl
theorem from_in {m : Nat} {p : Pl} {k : Nat} (hp : p.i + p.j ≤ m) (hk : k < 3) : from1 p k + number m p k ≤ m := by
  match k, hk with
  | 0, _ => show 0 + p.i ≤ m; omega
  | 1, _ => show p.i + p.j ≤ m; omega
  | 2, _ => show p.i + p.j + (m - p.i - p.j) ≤ m; omega
theorem piece_slice {m : Nat} {v : List Nat} {c k : Nat} {p : Pl} (hv : v.length = 3 * m) (hc : c < 3) (hp : p.i + p.j ≤ m) (hk : k < 3) : pieceL m v c p k = (v.drop (c * m + from1 p k)).take (number m p k) := by
  unfold pieceL
  rw [← range_take v 0 (c * m + from1 p k) (number m p k) ?_]
  · refine List.map_congr_left fun s _ => ?_
    show v.getD (c * m + (from1 p k + s)) 0 = v.getD (c * m + from1 p k + s) 0
    rw [Nat.add_assoc]
  · have h1 := from_in hp hk
    have h2 : c * m ≤ 2 * m := Nat.mul_le_mul_right m (by omega)
    omega
def okC (m : Nat) (v : List Nat) : Bool := okM m && okCake m v
theorem okC_f {m : Nat} {v : List Nat} (h : okC m v = false) : okM m = false ∨ okCake m v = false := by
  unfold okC at h
  rw [Bool.and_eq_false_iff] at h
  exact h
theorem okC_t {m : Nat} {v : List Nat} (h : okC m v = true) : ¬ (okM m = false ∨ okCake m v = false) := by
  unfold okC at h
  rw [Bool.and_eq_true] at h
  rw [h.1, h.2]
  simp
theorem okC_s {m : Nat} {v : List Nat} (h : okC m v = true) : 1 ≤ m ∧ m ≤ 9 ∧ v.length = 3 * m ∧ ∀ x ∈ v, x ≤ 1000 := by
  unfold okC at h
  rw [Bool.and_eq_true] at h
  obtain ⟨a, b⟩ := okM_iff.mp h.1
  obtain ⟨c, d⟩ := okCake_iff.mp h.2
  exact ⟨a, b, c, d⟩
theorem sum_cast : ∀ l : List Nat, (l.map fun x : Nat => (x : Int)).sum = ((l.sum : Nat) : Int)
  | [] => rfl
  | x :: l => by
    rw [List.map_cons, List.sum_cons, List.sum_cons, sum_cast l]
    omega
/-! ### the search as the loop makes it -/
theorem full_at {m : Nat} {p : Pl} (h1 : 1 ≤ m) (hp : p.i + p.j ≤ m) : ∃ a, (full m p)[0]? = some a ∧ a < 3 := by
  obtain ⟨k, hk⟩ := full_some h1 hp
  cases e : full m p with
  | nil => rw [e] at hk; cases hk
  | cons a l => exact ⟨a, rfl, (mem_full.mp (e ▸ List.mem_cons_self)).1⟩
theorem likes_all {m : Nat} {v : List Nat} {c a b : Nat} {p : Pl} (h : (full m p)[0]? = some a) (hb : (full m p).foldl (likes m v c p) (some a) = some b) : choice m v c p = b := by
  rw [choice_fold]
  cases e : full m p with
  | nil => rw [e] at h; cases h
  | cons x l =>
    rw [e] at h hb
    have : x = a := Option.some.inj h
    subst this
    have e1 : likes m v c p (some x) x = some x := if_neg (Nat.lt_irrefl _)
    rw [List.foldl_cons, e1] at hb
    show (l.foldl (likes m v c p) (some x)).getD 0 = b
    rw [hb]
    rfl
def fullTo (m : Nat) (p : Pl) (n : Nat) : List Nat := (List.range n).filter fun k => number m p k != 0
theorem fullTo_succ (m : Nat) (p : Pl) (n : Nat) : fullTo m p (n + 1) = fullTo m p n ++ (if (number m p n != 0) = true then [n] else []) := by
  unfold fullTo
  rw [List.range_succ, List.filter_append]
  by_cases h : (number m p n != 0) = true
  · rw [if_pos h, List.filter_cons_of_pos (p := fun k => number m p k != 0) h]; rfl
  · rw [if_neg h, List.filter_cons_of_neg (p := fun k => number m p k != 0) h]; rfl
theorem fullTo_len (m : Nat) (p : Pl) (n : Nat) : (fullTo m p n).length ≤ n := by
  unfold fullTo
  exact Nat.le_trans (List.length_filter_le _ _) (Nat.le_of_eq List.length_range)
theorem ans_apart (m : Nat) (f : List Nat) : Kzs3.answer (.apart m f) = if okM m = false ∨ Kzs3.okMap m f = false then Kzs1.say (-22) else Kzs1.say (Kzs3.apart m f : Nat) := rfl
theorem ans_cake (m : Nat) (v : List Nat) : Kzs3.answer (.cakeColours m v) = if okM m = false ∨ okCake m v = false then Kzs1.say (-22) else Kzs1.told (Kzs1.ints (cakeColours m v)) := rfl
theorem ans_choice (m c i j : Nat) (v : List Nat) : Kzs3.answer (.choice m c i j v) = if okM m = false ∨ okCake m v = false then Kzs1.say (-22) else if m < i + j ∨ 2 < c then Kzs1.say (-2) else Kzs1.say (choice m v c ⟨i, j⟩ : Nat) := rfl
theorem ans_worth (m c i j k : Nat) (v : List Nat) : Kzs3.answer (.worth m c i j k v) = if okM m = false ∨ okCake m v = false then Kzs1.say (-22) else if m < i + j ∨ 2 < c ∨ 2 < k then Kzs1.say (-2) else Kzs1.say (worth m v c ⟨i, j⟩ k : Nat) := rfl
end
end
section
section
open Kzs2 (places number noOf Room corners rooms sides colour)
/-! ### the rooms as the two loops make them -/
def upC (i j : Nat) : List Pl := [⟨i, j⟩, ⟨i + 1, j⟩, ⟨i, j + 1⟩]
def dnC (i j : Nat) : List Pl := [⟨i + 1, j + 1⟩, ⟨i, j + 1⟩, ⟨i + 1, j⟩]
def oneC (m j i : Nat) : List (List Pl) := if i + j + 2 ≤ m then [upC i j, dnC i j] else [upC i j]
def rRows (m j : Nat) : List (List Pl) := (List.range j).flatMap fun j => (List.range (m - j)).flatMap fun i => oneC m j i
def rPart (m j i : Nat) : List (List Pl) := rRows m j ++ (List.range i).flatMap fun i => oneC m j i
theorem rRows_succ (m j : Nat) : rRows m (j + 1) = rPart m j (m - j) := by
  unfold rRows rPart
  rw [List.range_succ, List.flatMap_append, List.flatMap_cons, List.flatMap_nil, List.append_nil]
  rfl
theorem rPart_zero (m j : Nat) : rPart m j 0 = rRows m j := by
  unfold rPart
  rw [List.range_zero, List.flatMap_nil, List.append_nil]
theorem rPart_succ (m j i : Nat) : rPart m j (i + 1) = rPart m j i ++ oneC m j i := by
  unfold rPart
  rw [List.range_succ, List.flatMap_append, List.flatMap_cons, List.flatMap_nil, List.append_nil, List.append_assoc]
theorem rRows_all (m : Nat) : rRows m m = (rooms m).map corners := by
  unfold rRows rooms
  rw [List.map_flatMap]
  congr 1
  funext j
  rw [List.map_flatMap]
  congr 1
  funext i
  unfold oneC
  by_cases h : i + j + 2 ≤ m
  · rw [if_pos h, if_pos h]
    rfl
  · rw [if_neg h, if_neg h]
    rfl
theorem rRows_len (m : Nat) : ∀ j, (rRows m j).length ≤ j * (2 * m)
  | 0 => by unfold rRows; simp
  | j + 1 => by
    rw [rRows_succ]
    have go : ∀ i, (rPart m j i).length ≤ (rRows m j).length + 2 * i := by
      intro i
      induction i with
      | zero => rw [rPart_zero]; omega
      | succ i ih =>
        rw [rPart_succ, List.length_append]
        have : (oneC m j i).length ≤ 2 := by unfold oneC; split <;> simp
        omega
    have h1 := go (m - j)
    have h2 := rRows_len m j
    rw [Nat.succ_mul]
    omega
theorem rPart_len {m j i : Nat} (hm : m ≤ 9) (hj : j ≤ m) (hi : i ≤ m) : (rPart m j i).length ≤ 200 := by
  have go : ∀ i, (rPart m j i).length ≤ (rRows m j).length + 2 * i := by
    intro i
    induction i with
    | zero => rw [rPart_zero]; omega
    | succ i ih =>
      rw [rPart_succ, List.length_append]
      have : (oneC m j i).length ≤ 2 := by unfold oneC; split <;> simp
      omega
  have h1 := go i
  have h2 := rRows_len m j
  have h3 : j * (2 * m) ≤ 9 * 18 := Nat.mul_le_mul (by omega) (by omega)
  omega
theorem corners_three (r : Room) : ∃ a b d, corners r = [a, b, d] := by
  unfold corners
  by_cases h : r.u = true
  · rw [if_pos h]; exact ⟨_, _, _, rfl⟩
  · rw [if_neg h]; exact ⟨_, _, _, rfl⟩
/-- a room's corners are places -/
theorem room_in {m : Nat} {r : Room} (hr : r ∈ rooms m) {p : Pl} (hp : p ∈ corners r) : p.i + p.j ≤ m := by
  unfold rooms at hr
  obtain ⟨j, hj, hr⟩ := List.mem_flatMap.mp hr
  obtain ⟨i, hi, hr⟩ := List.mem_flatMap.mp hr
  have hj := List.mem_range.mp hj
  have hi := List.mem_range.mp hi
  have hu : corners (⟨i, j, true⟩ : Room) = upC i j := rfl
  have hd : corners (⟨i, j, false⟩ : Room) = dnC i j := rfl
  by_cases h : i + j + 2 ≤ m
  · rw [if_pos h] at hr
    simp only [List.mem_cons, List.not_mem_nil, or_false] at hr
    rcases hr with rfl | rfl
    · rw [hu] at hp
      simp only [upC, List.mem_cons, List.not_mem_nil, or_false] at hp
      rcases hp with rfl | rfl | rfl <;> simp only <;> omega
    · rw [hd] at hp
      simp only [dnC, List.mem_cons, List.not_mem_nil, or_false] at hp
      rcases hp with rfl | rfl | rfl <;> simp only <;> omega
  · rw [if_neg h] at hr
    simp only [List.mem_cons, List.not_mem_nil, or_false] at hr
    subst hr
    rw [hu] at hp
    simp only [upC, List.mem_cons, List.not_mem_nil, or_false] at hp
    rcases hp with rfl | rfl | rfl <;> simp only <;> omega
theorem rooms_pos {m : Nat} (h1 : 1 ≤ m) : 0 < (rooms m).length := by
  cases e : rooms m with
  | nil =>
    have hm : (⟨0, 0, true⟩ : Room) ∈ rooms m := by
      unfold rooms
      refine List.mem_flatMap.mpr ⟨0, List.mem_range.mpr h1, List.mem_flatMap.mpr ⟨0, List.mem_range.mpr (by omega), ?_⟩⟩
      by_cases h : 0 + 0 + 2 ≤ m
      · rw [if_pos h]; exact List.mem_cons_self
      · rw [if_neg h]; exact List.mem_cons_self
    rw [e] at hm
    cases hm
  | cons a l => exact Nat.succ_pos _
theorem rooms_le : ∀ m, m < 10 → (rooms m).length ≤ 81 := by decide +kernel
/-! ### how far apart a room's corners are sent -/
/-- d is the most by which one of the first c numbers is greater where one of these places is sent than where another is -/
def IsMost (m : Nat) (f : List Nat) (ps : List Pl) (c d : Nat) : Prop :=
  (∀ k, k < c → ∀ p ∈ ps, ∀ q ∈ ps, number m (Kzs3.sent m f p) k - number m (Kzs3.sent m f q) k ≤ d) ∧ (d = 0 ∨ ∃ k, k < c ∧ ∃ p ∈ ps, ∃ q ∈ ps, d = number m (Kzs3.sent m f p) k - number m (Kzs3.sent m f q) k)
def roomL (m : Nat) (f : List Nat) (ps : List Pl) : List Nat := ps.flatMap fun p => ps.flatMap fun q => (List.range 3).map fun k => number m (Kzs3.sent m f p) k - number m (Kzs3.sent m f q) k
def roomA (m : Nat) (f : List Nat) (ps : List Pl) : Nat := (roomL m f ps).foldl max 0
theorem mem_roomL {m : Nat} {f : List Nat} {ps : List Pl} {x : Nat} : x ∈ roomL m f ps ↔ ∃ p ∈ ps, ∃ q ∈ ps, ∃ k, k < 3 ∧ number m (Kzs3.sent m f p) k - number m (Kzs3.sent m f q) k = x := by
  unfold roomL
  simp only [List.mem_flatMap, List.mem_map, List.mem_range]
theorem isMost_zero (m : Nat) (f : List Nat) (ps : List Pl) : IsMost m f ps 0 0 := ⟨fun k hk => absurd hk (Nat.not_lt_zero _), .inl rfl⟩
theorem isMost_succ {m : Nat} {f : List Nat} {ps : List Pl} {c d : Nat} {p q : Pl} (h : IsMost m f ps c d) (hp : p ∈ ps) (hq : q ∈ ps) (ha : ∀ x ∈ ps, number m (Kzs3.sent m f x) c ≤ number m (Kzs3.sent m f p) c)
    (hb : ∀ x ∈ ps, number m (Kzs3.sent m f q) c ≤ number m (Kzs3.sent m f x) c) : IsMost m f ps (c + 1) (max d (number m (Kzs3.sent m f p) c - number m (Kzs3.sent m f q) c)) := by
  refine ⟨fun k hk x hx y hy => ?_, ?_⟩
  · by_cases e : k = c
    · subst e
      have := ha x hx
      have := hb y hy
      omega
    · have := h.1 k (by omega) x hx y hy
      omega
  · by_cases e : d ≤ number m (Kzs3.sent m f p) c - number m (Kzs3.sent m f q) c
    · exact .inr ⟨c, by omega, p, hp, q, hq, by omega⟩
    · rw [Nat.max_eq_left (by omega)]
      rcases h.2 with z | ⟨k, hk, z⟩
      · exact .inl z
      · exact .inr ⟨k, by omega, z⟩
theorem isMost_all {m : Nat} {f : List Nat} {ps : List Pl} {d : Nat} (h : IsMost m f ps 3 d) : roomA m f ps = d := by
  refine max_eq (fun x hx => ?_) ?_
  · obtain ⟨p, hp, q, hq, k, hk, rfl⟩ := mem_roomL.mp hx
    exact h.1 k hk p hp q hq
  · rcases h.2 with z | ⟨k, hk, p, hp, q, hq, z⟩
    · exact .inl z
    · exact .inr (mem_roomL.mpr ⟨p, hp, q, hq, k, hk, z.symm⟩)
theorem apart_eq {m : Nat} {f : List Nat} {d : Nat} (h1 : ∀ r ∈ rooms m, roomA m f (corners r) ≤ d) (h2 : ∃ r ∈ rooms m, roomA m f (corners r) = d) : Kzs3.apart m f = d := by
  show ((rooms m).flatMap fun r => roomL m f (corners r)).foldl max 0 = d
  refine max_eq (fun x hx => ?_) ?_
  · obtain ⟨r, hr, hx⟩ := List.mem_flatMap.mp hx
    exact Nat.le_trans (max_mem (roomL m f (corners r)) 0 x hx) (h1 r hr)
  · obtain ⟨r, hr, e⟩ := h2
    rcases max_is (roomL m f (corners r)) 0 with z | z
    · left
      rw [← e]
      exact z
    · right
      refine List.mem_flatMap.mpr ⟨r, hr, ?_⟩
      rw [← e]
      exact z
end
end
open PySem PySem.Spec PyProof.Rows L2
open PySem.W (Codec WData)
open Kzs2 (places number noOf)
open Kzs3 (okM okMap sent keeps)
/-! ### the text by places -/
def top (i : Nat) : Stmt := PySem.Challenge.pw_fixedcakes_s05_apart.main.body.getD i (.Pass ⟨0, 0, 0, 0⟩)
abbrev s_is_size : Stmt := top 3
abbrev s_count_places : Stmt := top 4
abbrev s_place_index : Stmt := top 5
abbrev s_three_numbers : Stmt := top 6
abbrev s_all_rooms : Stmt := top 7
abbrev s_is_map : Stmt := top 8
abbrev s_sent_to : Stmt := top 9
abbrev s_apart_in_room : Stmt := top 10
abbrev s_apart : Stmt := top 11
/-! ### data -/
abbrev nI (n : Nat) : V := .int (n : Int)
abbrev lI (f : List Nat) : List V := f.map nI
abbrev pT (p : Pl) : HO := .tup [nI p.i, nI p.j]
theorem same_upd {H : Hp} {p : Addr} {o : HO} (h : H p = none) : Same H (upd H p o) := fun b x e => by
  rw [upd_ne (ne_of_none e h)]
  exact e
theorem same_mut {H H' : Hp} {p : Addr} {o : HO} (s : Same H H') (h : H p = none) : Same H (upd H' p o) := fun b x e => by
  rw [upd_ne (ne_of_none e h)]
  exact s _ _ e
theorem iteBF {b : Bool} {A B : Prop} (e : b = false) (h : B) : if b = true then A else B := by
  rw [e]
  exact iteF h
theorem iteBT {b : Bool} {A B : Prop} (e : b = true) (h : A) : if b = true then A else B := by
  rw [e]
  exact iteT h
theorem at_nat {xs : List V} {j : Nat} {v : V} (h : xs[j]? = some v) : atI xs (j : Int) = some v := atI_nat h
theorem lI_at {f : List Nat} {k : Nat} (h : k < f.length) : (lI f)[k]? = some (nI (f.getD k 0)) := by
  rw [List.getElem?_map, List.getElem?_eq_getElem h, List.getD_eq_getElem?_getD, List.getElem?_eq_getElem h]
  rfl
theorem lI_len (f : List Nat) : (lI f).length = f.length := List.length_map _
theorem lI_app (f g : List Nat) : lI (f ++ g) = lI f ++ lI g := List.map_append
section
variable {P : Program} {w : World} {K : PySem.W.Frag} {mg : Str → Option Value} {base : Heap}
open Kzs2 (rooms corners sides)
/-! ### is_size -/
def spIsSize : Sp := fun vs H Q _ => ∃ m : Nat, vs = [nI m] ∧ Q (.bl (okM m)) H
theorem scIsSize : FnScope ["m"] ["m"] (defScope s_is_size) := ⟨rfl, rfl, rfl, by decide +kernel, rfl, by decide +kernel, by decide +kernel⟩
theorem ok_is_size {f : Addr} {fd : FuncData} {t9 : Tok} (F : Fun K "is_size" "is_size" s_is_size f fd) (g9 : mg "GREATEST_SIZE" = some (.int 9 t9)) : FnOk P w K mg base CX0 1 f fd ["m"] spIsSize := by
  refine F.ok scIsSize (fun vs H Q E h => ?_) (fun cdv A outer s H vs Q E hr h => ?_)
  · obtain ⟨m, rfl, _⟩ := h
    rfl
  · obtain ⟨m, rfl, q⟩ := h
    refine ⟨_, pss_one (ps_ret (pe_and (pe_cmp (pc_ge (pv 0) pe_int) rfl) (pe_one (pe_cmp (pc_le (pv 0) (pe_glob (v := .int 9) rfl g9 ⟨_, rfl⟩)) rfl)))), ?_⟩
    refine ⟨_, rfl, _, _, rfl, rfl, _, rfl, ite2 (fun h1 => ?_) (fun h1 => ?_)⟩
    · refine ⟨_, rfl, _, _, rfl, rfl, ?_⟩
      have h1 : (1 : Int) ≤ (m : Int) := of_decide_eq_true h1
      have e : decide ((m : Int) ≤ 9) = okM m := by
        rw [Bool.eq_iff_iff, decide_eq_true_iff, okM_iff]
        omega
      show Q (.bl (decide ((m : Int) ≤ 9))) H
      rw [e]
      exact q
    · have h1 : ¬ (1 : Int) ≤ (m : Int) := fun z => h1 (decide_eq_true z)
      have e : false = okM m := by
        rw [Bool.eq_iff_iff, okM_iff]
        constructor
        · intro z; cases z
        · intro z; omega
      show Q (.bl false) H
      rw [e]
      exact q
/-! ### count_places -/
def spCount : Sp := fun vs H Q _ => ∃ m : Nat, vs = [nI m] ∧ m ≤ 9 ∧ Q (nI (cnt m)) H
theorem scCount : FnScope ["m"] ["m"] (defScope s_count_places) := ⟨rfl, rfl, rfl, by decide +kernel, rfl, by decide +kernel, by decide +kernel⟩
theorem ok_count_places {f : Addr} {fd : FuncData} (F : Fun K "count_places" "count_places" s_count_places f fd) : FnOk P w K mg base CX0 1 f fd ["m"] spCount := by
  refine F.ok scCount (fun vs H Q E h => ?_) (fun cdv A outer s H vs Q E hr h => ?_)
  · obtain ⟨m, rfl, _⟩ := h
    rfl
  · obtain ⟨m, rfl, hm, q⟩ := h
    refine ⟨_, pss_one (ps_ret (pe_op op_fdiv (pe_op op_mul (pe_op op_add (pv 0) pe_int) (pe_op op_add (pv 0) pe_int)) pe_int)), ?_⟩
    refine ⟨_, rfl, _, _, rfl, rfl, _, rfl, _, _, rfl, rfl, _, _, rfl, rfl, .inl ⟨?_, ?_⟩, _, _, rfl, rfl, ⟨by decide, by decide⟩, ?_⟩
    · omega
    · omega
    · show Q (.int (((m : Int) + 1) * ((m : Int) + 2) / 2)) H
      rw [cnt_int hm]
      exact q
/-! ### is_map -/
def spIsMap (K : PySem.W.Frag) : Sp := fun vs H Q _ => ∃ (m : Nat) (a : Addr) (f : List Nat), vs = [nI m, .ref a] ∧ SqL K H a (lI f) ∧ Q (.bl (okAll m f)) H
theorem scIsMap : FnScope ["m", "f", "k"] ["m", "f"] (defScope s_is_map) := ⟨rfl, rfl, rfl, by decide +kernel, rfl, by decide +kernel, by decide +kernel⟩
theorem ok_is_map {f fS fC : Addr} {fd fdS fdC : FuncData} (F : Fun K "is_map" "is_map" s_is_map f fd) (FS : Fun K "is_size" "is_size" s_is_size fS fdS) (FC : Fun K "count_places" "count_places" s_count_places fC fdC)
    (GS : FnOk P w K mg base CX0 1 fS fdS ["m"] spIsSize) (GC : FnOk P w K mg base CX0 1 fC fdC ["m"] spCount) (bS : Binds K fdS ["m"] []) (bC : Binds K fdC ["m"] []) (gS : mg "is_size" = some (.ref fS)) (gC : mg "count_places" = some (.ref fC))
    (ml : mg "len" = none) (mr : mg "range" = none) : FnOk P w K mg base CX0 2 f fd ["m", "f"] (spIsMap K) := by
  refine F.ok scIsMap (fun vs H Q E h => ?_) (fun cdv A outer s H vs Q E hr h => ?_)
  · obtain ⟨m, a, ns, rfl, _⟩ := h
    rfl
  · obtain ⟨m, a, ns, rfl, ha, q⟩ := h
    refine ⟨_, pss_cons (ps_if (pt_not (pt_val (pe_call GS hr rfl gS FS.kp bS .nil pass0 (pa_cons (pv 0) pa_nil)))) (pss_one (ps_ret pe_bl)) pss_nil)
      (pss_cons (ps_if (pt_cmpR op_ne (pe_callB call_len_seq (by rfl) ml PySem.boot_len (pa_cons (pv 1) pa_nil)) (pe_op op_mul pe_int (pe_call GC hr rfl gC FC.kp bC .nil pass0 (pa_cons (pv 0) pa_nil))) (nomark _)) (pss_one (ps_ret pe_bl)) pss_nil)
      (pss_cons (ps_for PassesOwn.never rfl (pi_range1 rfl mr (pa_cons (pe_call GC hr rfl gC FC.kp bC .nil pass0 (pa_cons (pv 0) pa_nil)) pa_nil)) (pg_name (i := 2) scIsMap.nd rfl (.inl rfl))
        (pss_one (ps_if (pt_cmpR op_gt (pe_op op_add (pe_ix ix_list (pv 1) (pe_op op_mul pe_int (pv 2)) (fun _ _ => rfl)) (pe_ix ix_list (pv 1) (pe_op op_add (pe_op op_mul pe_int (pv 2)) pe_int) (fun _ _ => rfl))) (pv 0) (nomark _)) (pss_one (ps_ret pe_bl)) pss_nil)))
      (pss_one (ps_ret pe_bl)))), ?_⟩
    -- if not is_size(m)
    refine ⟨_, rfl, m, rfl, _, rfl, ?_⟩
    cases hM : okM m with
    | false =>
      have e : okAll m ns = false := by unfold okAll; rw [hM]; rfl
      rw [e] at q
      exact iteT q
    | true =>
      obtain ⟨h1, h9⟩ := okM_iff.mp hM
      refine iteF ?_
      -- if len(f) != 2 * count_places(m)
      refine ⟨_, rfl, a, _, rfl, .inl ha, _, rfl, m, rfl, h9, _, _, rfl, rfl, .inl ⟨by decide, by decide⟩, rfl, _, rfl, ?_⟩
      by_cases hl : ns.length = 2 * cnt m
      · have e1 : (!decide (V.int ((lI ns).length : Int) = V.int (2 * ((cnt m : Nat) : Int)))) = false := by
          rw [lI_len, hl, decide_eq_true (by congr 1)]
          rfl
        rw [e1]
        refine iteF ?_
        -- the loop
        have hp := cnt_le m (by omega)
        refine ⟨_, rfl, m, rfl, h9, _, rfl, by omega, by omega, for_range (n := (((cnt m : Nat) : Int)).toNat) (fun i σ H' => ∃ v : Option V, σ = [some (nI m), some (.ref a), v] ∧ H' = H ∧ ∀ n, n < i → ns.getD (2 * n) 0 + ns.getD (2 * n + 1) 0 ≤ m) ⟨none, rfl, rfl, fun n hn => absurd hn (Nat.not_lt_zero _)⟩ ?_ ?_⟩
        · rintro i σ H' hi ⟨v, rfl, rfl, hn⟩
          have hi : i < cnt m := by simpa using hi
          have a1 : (lI ns)[2 * i]? = some (nI (ns.getD (2 * i) 0)) := lI_at (by omega)
          have a2 : (lI ns)[2 * i + 1]? = some (nI (ns.getD (2 * i + 1) 0)) := lI_at (by omega)
          refine ⟨_, rfl, _, rfl, _, _, rfl, rfl, .inl ⟨by decide, by decide⟩, a, _, _, _, rfl, rfl, ha, at_of (j := 2 * i) (by omega) a1, _, rfl, _, rfl, _, _, rfl, rfl, .inl ⟨by decide, by decide⟩, _, _, rfl, rfl, a, _, _, _, rfl, rfl, ha, at_of (j := 2 * i + 1) (by omega) a2, _, _, rfl, rfl, _, rfl, _, _, rfl, rfl, _, rfl, ite2 (fun z => ?_) (fun z => ?_)⟩
          · have z : (m : Int) < ((ns.getD (2 * i) 0 : Nat) : Int) + ((ns.getD (2 * i + 1) 0 : Nat) : Int) := of_decide_eq_true z
            have e : okAll m ns = false := by
              cases ho : okAll m ns with
              | false => rfl
              | true =>
                unfold okAll at ho
                rw [Bool.and_eq_true] at ho
                have := (okMap_iff.mp ho.2).2 i hi
                omega
            rw [e] at q
            exact q
          · have z : ¬ (m : Int) < ((ns.getD (2 * i) 0 : Nat) : Int) + ((ns.getD (2 * i + 1) 0 : Nat) : Int) := fun y => z (decide_eq_true y)
            refine ⟨_, rfl, rfl, fun n hn' => ?_⟩
            by_cases en : n = i
            · subst en
              omega
            · exact hn n (by omega)
        · rintro σ H' ⟨v, rfl, rfl, hn⟩
          have hn : ∀ n, n < cnt m → ns.getD (2 * n) 0 + ns.getD (2 * n + 1) 0 ≤ m := fun n h => hn n (by simpa using h)
          have e : okAll m ns = true := by
            unfold okAll
            rw [hM, okMap_iff.mpr ⟨hl, hn⟩]
            rfl
          rw [e] at q
          exact q
      · have e1 : (!decide (V.int ((lI ns).length : Int) = V.int (2 * ((cnt m : Nat) : Int)))) = true := by
          rw [lI_len, decide_eq_false (by intro z; have := V.int.inj z; omega)]
          rfl
        rw [e1]
        have e : okAll m ns = false := by
          cases ho : okAll m ns with
          | false => rfl
          | true =>
            unfold okAll at ho
            rw [Bool.and_eq_true] at ho
            exact absurd (okMap_iff.mp ho.2).1 hl
        rw [e] at q
        exact iteT q
/-! ### three_numbers -/
abbrev nums (m : Nat) (p : Pl) : List V := [nI (number m p 0), nI (number m p 1), nI (number m p 2)]
theorem nums_at (m : Nat) (p : Pl) {c : Nat} (h : c < 3) : (nums m p)[c]? = some (nI (number m p c)) := by
  match c, h with
  | 0, _ => rfl
  | 1, _ => rfl
  | 2, _ => rfl
def spThree : Sp := fun vs H Q _ => ∃ (m : Nat) (a : Addr) (p : Pl), vs = [nI m, .ref a] ∧ p.i + p.j ≤ m ∧ H a = some (pT p) ∧ ∀ t, H t = none → Q (.ref t) (upd H t (.tup (nums m p)))
theorem scThree : FnScope ["m", "place"] ["m", "place"] (defScope s_three_numbers) := ⟨rfl, rfl, rfl, by decide +kernel, rfl, by decide +kernel, by decide +kernel⟩
theorem ok_three_numbers {f : Addr} {fd : FuncData} (F : Fun K "three_numbers" "three_numbers" s_three_numbers f fd) : FnOk P w K mg base CX0 1 f fd ["m", "place"] spThree := by
  refine F.ok scThree (fun vs H Q E h => ?_) (fun cdv A outer s H vs Q E hr h => ?_)
  · obtain ⟨m, a, p, rfl, _⟩ := h
    rfl
  · obtain ⟨m, a, p, rfl, hp, ha, q⟩ := h
    refine ⟨_, pss_one (ps_ret (pe_tup (pa_cons (pe_ix ix_tup (pv 1) pe_int (fun _ _ => rfl)) (pa_cons (pe_ix ix_tup (pv 1) pe_int (fun _ _ => rfl))
      (pa_cons (pe_op op_sub (pe_op op_sub (pv 0) (pe_ix ix_tup (pv 1) pe_int (fun _ _ => rfl))) (pe_ix ix_tup (pv 1) pe_int (fun _ _ => rfl))) pa_nil))))), ?_⟩
    refine ⟨_, rfl, a, _, _, nI p.i, rfl, rfl, SqT.of ha, at_nat (j := 0) rfl, _, rfl, a, _, _, nI p.j, rfl, rfl, SqT.of ha, at_nat (j := 1) rfl,
      _, rfl, _, rfl, a, _, _, nI p.i, rfl, rfl, SqT.of ha, at_nat (j := 0) rfl, _, _, rfl, rfl, _, rfl, a, _, _, nI p.j, rfl, rfl, SqT.of ha, at_nat (j := 1) rfl, _, _, rfl, rfl, ?_⟩
    refine ⟨by show 3 ≤ sizeLine; decide, fun t ht => ?_⟩
    have e : ((m : Int) - (p.i : Int) - (p.j : Int)) = ((number m p 2 : Nat) : Int) := by
      show _ = ((m - p.i - p.j : Nat) : Int)
      omega
    show Q (.ref t) (upd H t (.tup [nI p.i, nI p.j, .int ((m : Int) - (p.i : Int) - (p.j : Int))]))
    rw [e]
    exact q t ht
/-! ### place_index -/
def spIndex : Sp := fun vs H Q _ => ∃ (m : Nat) (a : Addr) (p : Pl), vs = [nI m, .ref a] ∧ m ≤ 9 ∧ p.i + p.j ≤ m ∧ H a = some (pT p) ∧ Q (nI (noOf m p)) H
theorem scIndex : FnScope ["m", "place", "j"] ["m", "place"] (defScope s_place_index) := ⟨rfl, rfl, rfl, by decide +kernel, rfl, by decide +kernel, by decide +kernel⟩
theorem ok_place_index {f : Addr} {fd : FuncData} (F : Fun K "place_index" "place_index" s_place_index f fd) : FnOk P w K mg base CX0 1 f fd ["m", "place"] spIndex := by
  refine F.ok scIndex (fun vs H Q E h => ?_) (fun cdv A outer s H vs Q E hr h => ?_)
  · obtain ⟨m, a, p, rfl, _⟩ := h
    rfl
  · obtain ⟨m, a, p, rfl, hm, hp, ha, q⟩ := h
    refine ⟨_, pss_cons (ps_set (i := 2) scIndex.nd rfl (.inl rfl) (pe_ix ix_tup (pv 1) pe_int (fun _ _ => rfl)))
      (pss_one (ps_ret (pe_op op_add (pe_op op_sub (pe_op op_mul (pv 2) (pe_op op_add (pv 0) pe_int)) (pe_op op_fdiv (pe_op op_mul (pv 2) (pe_op op_sub (pv 2) pe_int)) pe_int)) (pe_ix ix_tup (pv 1) pe_int (fun _ _ => rfl))))), ?_⟩
    refine ⟨_, rfl, a, _, _, nI p.j, rfl, rfl, SqT.of ha, at_nat (j := 1) rfl, ?_⟩
    refine ⟨_, rfl, _, rfl, _, _, rfl, rfl, _, _, rfl, rfl, .inl ⟨by omega, by omega⟩, _, rfl, _, rfl, _, _, rfl, rfl, _, _, rfl, rfl, .inl ⟨by omega, by omega⟩, _, _, rfl, rfl, ⟨by decide, by decide⟩, _, _, rfl, rfl,
      _, rfl, a, _, _, nI p.i, rfl, rfl, SqT.of ha, at_nat (j := 0) rfl, _, _, rfl, rfl, ?_⟩
    show Q (.int ((p.j : Int) * ((m : Int) + 1) - (p.j : Int) * ((p.j : Int) - 1) / 2 + (p.i : Int))) H
    rw [ix_int hm hp]
    exact q
/-! ### sent_to -/
def spSent (K : PySem.W.Frag) : Sp := fun vs H Q _ => ∃ (m : Nat) (a b : Addr) (f : List Nat) (p : Pl), vs = [nI m, .ref a, .ref b] ∧ m ≤ 9 ∧ okMap m f = true ∧ SqL K H a (lI f) ∧ p.i + p.j ≤ m ∧ H b = some (pT p) ∧ ∀ t, H t = none → Q (.ref t) (upd H t (pT (sent m f p)))
theorem scSent : FnScope ["m", "f", "place", "k"] ["m", "f", "place"] (defScope s_sent_to) := ⟨rfl, rfl, rfl, by decide +kernel, rfl, by decide +kernel, by decide +kernel⟩
theorem ok_sent_to {f fI : Addr} {fd fdI : FuncData} (F : Fun K "sent_to" "sent_to" s_sent_to f fd) (FI : Fun K "place_index" "place_index" s_place_index fI fdI)
    (GI : FnOk P w K mg base CX0 1 fI fdI ["m", "place"] spIndex) (bI : Binds K fdI ["m", "place"] []) (gI : mg "place_index" = some (.ref fI)) : FnOk P w K mg base CX0 2 f fd ["m", "f", "place"] (spSent K) := by
  refine F.ok scSent (fun vs H Q E h => ?_) (fun cdv A outer s H vs Q E hr h => ?_)
  · obtain ⟨m, a, b, ns, p, rfl, _⟩ := h
    rfl
  · obtain ⟨m, a, b, ns, p, rfl, h9, ho, ha, hp, hb, q⟩ := h
    refine ⟨_, pss_cons (ps_set (i := 3) scSent.nd rfl (.inl rfl) (pe_call GI hr rfl gI FI.kp bI .nil pass0 (pa_cons (pv 0) (pa_cons (pv 2) pa_nil))))
      (pss_one (ps_ret (pe_tup (pa_cons (pe_ix ix_list (pv 1) (pe_op op_mul pe_int (pv 3)) (fun _ _ => rfl)) (pa_cons (pe_ix ix_list (pv 1) (pe_op op_add (pe_op op_mul pe_int (pv 3)) pe_int) (fun _ _ => rfl)) pa_nil))))), ?_⟩
    have hl := (okMap_iff.mp ho).1
    have hn := no_cnt h9 hp
    have a1 : (lI ns)[2 * noOf m p]? = some (nI (sent m ns p).i) := lI_at (by omega)
    have a2 : (lI ns)[2 * noOf m p + 1]? = some (nI (sent m ns p).j) := lI_at (by omega)
    refine ⟨_, rfl, _, rfl, m, b, p, rfl, h9, hp, hb, ?_⟩
    refine ⟨_, rfl, _, rfl, _, _, rfl, rfl, .inl ⟨by decide, by decide⟩, a, _, _, _, rfl, rfl, ha, at_of (j := 2 * noOf m p) (by omega) a1, _, rfl, _, rfl, _, _, rfl, rfl, .inl ⟨by decide, by decide⟩, _, _, rfl, rfl, a, _, _, _, rfl, rfl, ha, at_of (j := 2 * noOf m p + 1) (by omega) a2, ?_⟩
    exact ⟨by show 2 ≤ sizeLine; decide, fun t ht => q t ht⟩
/-! ### sums and cuts -/
theorem lI_int (f : List Nat) : lI f = (f.map fun x : Nat => (x : Int)).map V.int := by
  rw [List.map_map]
  rfl
def rSumT (K : PySem.W.Frag) : List V → Hp → VK → Prop := fun vs H Q => ∃ (t : Addr) (ks : List Int), vs = [.ref t] ∧ SqT K H t (ks.map V.int) ∧ Q (.int ks.sum) H
/-- sum of a tuple of whole numbers -/
theorem cr_sumT {X : Cx} (calm : X.calm = true) : CallR X (.builtin "sum") (rSumT X.K) := by
  rintro pins st σ H _ us Q I rv ⟨t, ks, rfl, ht, fin⟩
  obtain ⟨its, ri, hi, _⟩ := I.tuple ht
  rw [Vals.ref1 rv]
  have ia := ri.ints
  obtain ⟨zs, ez⟩ := ia.allInts.items
  have en : PySem.numsOf (PySem.intItems zs).toList = ks := by
    rw [← ez]
    exact ia.numsOf
  rw [nums_intItems] at en
  rw [ez] at hi
  refine PySem.W.ktm_sumG (I.ok.hd calm) hi fun h' tk t' hk => ?_
  refine ⟨.int ks.sum, H, I.kept hk, ⟨t', ?_⟩, fin⟩
  rw [preSum_eq, List.take_of_length_le (by simp), en]
theorem cut_list (v : List Nat) (s n : Nat) (h : s + n ≤ v.length) : cutV (lI v) (some (s : Int)) (some ((s + n : Nat) : Int)) = lI ((v.drop s).take n) := by
  unfold cutV
  rw [HT.sIx_nat, HT.sIx_nat, lI_len, Nat.min_eq_left (by omega), Nat.min_eq_left (by omega), Nat.add_sub_cancel_left]
  show List.take n (List.drop s (v.map nI)) = (List.take n (List.drop s v)).map nI
  rw [List.map_take, List.map_drop]
/-! ### places in the heap -/
def PlsAt (H : Hp) (as : List Addr) (ps : List Pl) : Prop := as.length = ps.length ∧ ∀ (k : Nat) (p : Pl), ps[k]? = some p → ∃ a, as[k]? = some a ∧ H a = some (pT p)
theorem PlsAt.mono {H H' : Hp} {as : List Addr} {ps : List Pl} (h : PlsAt H as ps) (s : Same H H') : PlsAt H' as ps :=
  ⟨h.1, fun k p e => let ⟨a, e1, e2⟩ := h.2 k p e; ⟨a, e1, s _ _ e2⟩⟩
theorem PlsAt.snoc {H : Hp} {as : List Addr} {ps : List Pl} {a : Addr} {p : Pl} (h : PlsAt H as ps) (e : H a = some (pT p)) : PlsAt H (as ++ [a]) (ps ++ [p]) := by
  refine ⟨by rw [List.length_append, List.length_append, h.1]; rfl, fun k q hq => ?_⟩
  by_cases hk : k < ps.length
  · rw [List.getElem?_append_left hk] at hq
    rw [List.getElem?_append_left (by rw [h.1]; exact hk)]
    exact h.2 k q hq
  · rw [List.getElem?_append_right (by omega)] at hq
    rw [List.getElem?_append_right (by rw [h.1]; omega), h.1]
    have hz : k - ps.length = 0 := by
      cases z : k - ps.length with
      | zero => rfl
      | succ n => rw [z] at hq; simp at hq
    rw [hz] at hq ⊢
    have e2 : p = q := Option.some.inj hq
    subst e2
    exact ⟨a, rfl, e⟩
theorem PlsAt.put {H : Hp} {as : List Addr} {ps : List Pl} {l : Addr} {xs : List V} {o : HO} (h : PlsAt H as ps) (e : H l = some (.lst xs)) : PlsAt (upd H l o) as ps :=
  ⟨h.1, fun k p q => let ⟨a, e1, e2⟩ := h.2 k p q; ⟨a, e1, by rw [upd_ne (ne_of e2 e (by intro z; cases z))]; exact e2⟩⟩
/-! ### lists of things in the heap -/
def AllAt {α : Type} (R : Addr → α → Prop) (as : List Addr) (xs : List α) : Prop := as.length = xs.length ∧ ∀ (k : Nat) (x : α), xs[k]? = some x → ∃ a, as[k]? = some a ∧ R a x
theorem AllAt.nil {α : Type} {R : Addr → α → Prop} : AllAt R [] [] := ⟨rfl, fun k x h => by simp at h⟩
theorem AllAt.imp {α : Type} {R R' : Addr → α → Prop} {as : List Addr} {xs : List α} (h : AllAt R as xs) (f : ∀ a x, R a x → R' a x) : AllAt R' as xs :=
  ⟨h.1, fun k p e => let ⟨a, e1, e2⟩ := h.2 k p e; ⟨a, e1, f _ _ e2⟩⟩
theorem AllAt.snoc {α : Type} {R : Addr → α → Prop} {as : List Addr} {xs : List α} {a : Addr} {x : α} (h : AllAt R as xs) (e : R a x) : AllAt R (as ++ [a]) (xs ++ [x]) := by
  refine ⟨by rw [List.length_append, List.length_append, h.1]; rfl, fun k q hq => ?_⟩
  by_cases hk : k < xs.length
  · rw [List.getElem?_append_left hk] at hq
    rw [List.getElem?_append_left (by rw [h.1]; exact hk)]
    exact h.2 k q hq
  · rw [List.getElem?_append_right (by omega)] at hq
    rw [List.getElem?_append_right (by rw [h.1]; omega), h.1]
    have hz : k - xs.length = 0 := by
      cases z : k - xs.length with
      | zero => rfl
      | succ n => rw [z] at hq; simp at hq
    rw [hz] at hq ⊢
    have e2 : x = q := Option.some.inj hq
    subst e2
    exact ⟨a, rfl, e⟩
theorem AllAt.get {α : Type} {R : Addr → α → Prop} {as : List Addr} {xs : List α} {k : Nat} {v : V} (h : AllAt R as xs) (e : (as.map V.ref)[k]? = some v) : ∃ a x, v = .ref a ∧ as[k]? = some a ∧ xs[k]? = some x ∧ R a x := by
  rw [List.getElem?_map] at e
  cases z : as[k]? with
  | none => rw [z] at e; cases e
  | some a =>
    rw [z] at e
    have hk : k < xs.length := by
      rw [← h.1]
      exact (List.getElem?_eq_some_iff.mp z).1
    obtain ⟨b, e1, e2⟩ := h.2 k _ (List.getElem?_eq_getElem hk)
    rw [z] at e1
    have := Option.some.inj e1
    subst this
    exact ⟨a, _, (Option.some.inj e).symm, rfl, List.getElem?_eq_getElem hk, e2⟩
/-- a room: a tuple of its corners -/
def RoomAt (H : Hp) (a : Addr) (ps : List Pl) : Prop := ∃ cs : List Addr, H a = some (.tup (cs.map V.ref)) ∧ PlsAt H cs ps
theorem RoomAt.mono {H H' : Hp} {a : Addr} {ps : List Pl} (h : RoomAt H a ps) (s : Same H H') : RoomAt H' a ps := let ⟨cs, h1, h2⟩ := h; ⟨cs, s _ _ h1, h2.mono s⟩
theorem RoomAt.put {H : Hp} {a : Addr} {ps : List Pl} {l : Addr} {xs : List V} {o : HO} (h : RoomAt H a ps) (e : H l = some (.lst xs)) : RoomAt (upd H l o) a ps := by
  obtain ⟨cs, h1, h2⟩ := h
  exact ⟨cs, by rw [upd_ne (ne_of h1 e (by intro z; cases z))]; exact h1, h2.put e⟩
theorem room_mk {H : Hp} {t1 t2 t3 : Addr} {p1 p2 p3 : Pl} {t : Addr} (h1 : H t1 = some (pT p1)) (h2 : H t2 = some (pT p2)) (h3 : H t3 = some (pT p3)) (h : H t = some (.tup [.ref t1, .ref t2, .ref t3])) : RoomAt H t [p1, p2, p3] :=
  ⟨[t1, t2, t3], h, (((show PlsAt H [] [] from ⟨rfl, fun k p hq => by simp at hq⟩).snoc h1).snoc h2).snoc h3⟩
/-! ### apart_in_room -/
def SentAt (m : Nat) (f : List Nat) (H : Hp) : Addr → Pl → Prop := fun t p => H t = some (.tup (nums m (sent m f p)))
def spInRoom (K : PySem.W.Frag) : Sp := fun vs H Q _ => ∃ (m : Nat) (a r : Addr) (f : List Nat) (ps : List Pl), vs = [nI m, .ref a, .ref r] ∧ m ≤ 9 ∧ okMap m f = true ∧ SqL K H a (lI f) ∧ RoomAt H r ps ∧ 0 < ps.length ∧ ps.length ≤ 3 ∧ (∀ p ∈ ps, p.i + p.j ≤ m) ∧ ∀ H', Same H H' → Q (nI (roomA m f ps)) H'
theorem scInRoom : FnScope ["m", "f", "room", "sent", "most", "c", "told", "corner", "there"] ["m", "f", "room"] (defScope s_apart_in_room) := ⟨rfl, rfl, rfl, by decide +kernel, rfl, by decide +kernel, by decide +kernel⟩
theorem ok_apart_in_room {f f3 fT : Addr} {fd fd3 fdT : FuncData} (F : Fun K "apart_in_room" "apart_in_room" s_apart_in_room f fd) (F3 : Fun K "three_numbers" "three_numbers" s_three_numbers f3 fd3) (FT : Fun K "sent_to" "sent_to" s_sent_to fT fdT)
    (G3 : FnOk P w K mg base CX0 1 f3 fd3 ["m", "place"] spThree) (GT : FnOk P w K mg base CX0 2 fT fdT ["m", "f", "place"] (spSent K)) (b3 : Binds K fd3 ["m", "place"] []) (bT : Binds K fdT ["m", "f", "place"] [])
    (g3 : mg "three_numbers" = some (.ref f3)) (gT : mg "sent_to" = some (.ref fT)) (mr : mg "range" = none) (mx : mg "max" = none) (mn : mg "min" = none) : FnOk P w K mg base CX0 3 f fd ["m", "f", "room"] (spInRoom K) := by
  refine F.ok scInRoom (fun vs H Q E h => ?_) (fun cdv A outer s H vs Q E hr h => ?_)
  · obtain ⟨m, a, r, ns, ps, rfl, _⟩ := h
    rfl
  · obtain ⟨m, a, r, ns, ps, rfl, h9, ho, ha, ⟨cs, er, pc⟩, h0, h3, hin, q⟩ := h
    have hr1 : Room 1 _ := hr.mono (by decide)
    refine ⟨_, pss_cons (ps_setLc (i := 3) (own := [("corner", 7)]) (g := gName 7) (tt := tYes) (te := tCall spThree [] E0 (tCons (tVar 0) (tCons (tCall (spSent K) [] E0 (tCons (tVar 0) (tCons (tVar 1) (tCons (tVar 7) tNil)))) tNil)))
          rfl scInRoom.nd rfl rfl (sw_true rfl rfl rfl (by decide +kernel)) (pi_tup (pv 2)) (blkOk_by (own := [("corner", 7)]) (N := ["m", "f", "room", "sent", "most", "c", "told", "corner", "there"]) (sc := defScope s_apart_in_room) (by decide +kernel))
          (fun _ _ _ _ _ => pg_name (i := 7) scInRoom.nd rfl (.inl rfl)) (fun _ _ _ _ _ => pts_nil)
          (fun _ _ _ _ _ => pe_call G3 hr1 rfl g3 F3.kp b3 .nil pass0 (pa_cons (pv 0) (pa_cons (pe_call GT hr rfl gT FT.kp bT .nil pass0 (pa_cons (pv 0) (pa_cons (pv 1) (pa_cons (pv 7) pa_nil)))) pa_nil))))
      (pss_cons (ps_set (i := 4) scInRoom.nd rfl (.inl rfl) pe_int)
      (pss_cons (ps_for PassesOwn.never rfl (pi_range1 rfl mr (pa_cons pe_int pa_nil)) (pg_name (i := 5) scInRoom.nd rfl (.inr rfl))
        (pss_cons (ps_setLc (i := 6) (own := [("there", 8)]) (g := gName 8) (tt := tYes) (te := tOp (rIxT K) (tVar 8) (tVar 5))
            rfl scInRoom.nd rfl rfl (sw_true rfl rfl rfl (by decide +kernel)) (pi_list (pv 3)) (blkOk_by (own := [("there", 8)]) (N := ["m", "f", "room", "sent", "most", "c", "told", "corner", "there"]) (sc := defScope s_apart_in_room) (by decide +kernel))
            (fun _ _ _ _ _ => pg_name (i := 8) scInRoom.nd rfl (.inl rfl)) (fun _ _ _ _ _ => pts_nil)
            (fun _ _ _ _ _ => pe_ix ix_tup (pv 8) (pv 5) (fun _ _ => rfl)))
        (pss_one (ps_set (i := 4) scInRoom.nd rfl (.inl rfl) (pe_callB (call_max2 rfl) (by rfl) mx (by decide +kernel) (pa_cons (pv 4) (pa_cons
          (pe_op op_sub (pe_callB (cr_max rfl) (by rfl) mx (by decide +kernel) (pa_cons (pv 6) pa_nil)) (pe_callB (cr_min rfl) (by rfl) mn (by decide +kernel) (pa_cons (pv 6) pa_nil))) pa_nil)))))))
      (pss_one (ps_ret (pv 4))))), ?_⟩
    -- sent
    refine ⟨_, rfl, r, rfl, ⟨_, SqT.of er⟩, fun D nD => ?_⟩
    refine lc_tup (K := K) (a := r) (xs := cs.map V.ref) (fun i H' => Same H H' ∧ ∃ ts : List Addr, H' D = some (.lst (ts.map V.ref)) ∧ AllAt (SentAt m ns H') ts (ps.take i)) ⟨same_upd nD, [], upd_same, .nil⟩ (fun i H' _ ⟨s1, _⟩ => SqT.of (s1 _ _ er)) ?_ ?_
    · rintro i y H1 hi ⟨s1, ts, eD, at1⟩
      obtain ⟨b, p, rfl, hb, hp, hbp⟩ := AllAt.get (R := fun a p => H a = some (pT p)) pc hi
      have hpl : p.i + p.j ≤ m := hin p (List.mem_of_getElem? hp)
      refine ⟨rfl, _, rfl, _, rfl, _, rfl, _, rfl, m, a, b, ns, p, rfl, h9, ho, s1.seq ha, hpl, s1 _ _ hbp, fun t1 n1 => ⟨m, t1, sent m ns p, rfl, sent_ok h9 ho hpl, upd_same, fun t nt => ?_⟩⟩
      have s2 := same_upd (o := pT (sent m ns p)) n1
      generalize upd H1 t1 (pT (sent m ns p)) = H2 at s2 nt ⊢
      have s3 := s2.trans (same_upd (o := .tup (nums m (sent m ns p))) nt)
      have et : upd H2 t (.tup (nums m (sent m ns p))) t = some (.tup (nums m (sent m ns p))) := upd_same
      generalize upd H2 t (.tup (nums m (sent m ns p))) = H3 at s3 et ⊢
      have eD3 := s3 _ _ eD
      refine ⟨_, eD3, ?_, same_mut (s1.trans s3) nD, ts ++ [t], ?_, ?_⟩
      · rw [List.length_map, at1.1]
        exact Nat.lt_of_le_of_lt (List.length_take_le' _ _) (small1000 (by omega))
      · rw [upd_same, List.map_append]
        rfl
      · rw [take_snoc hp]
        have at3 : AllAt (SentAt m ns H3) (ts ++ [t]) (ps.take i ++ [p]) := (at1.imp fun b x e => s3 _ _ e).snoc et
        refine at3.imp fun b x e => ?_
        show upd H3 D _ b = _
        rw [upd_ne (ne_of e eD3 (by intro z; cases z))]
        exact e
    · rintro H2 ⟨s2, ts, eD, at2⟩
      rw [List.length_map, pc.1, List.take_length] at at2
      -- most = 0; for c in range(3)
      refine ⟨3, rfl, by decide, by decide, for_range (n := 3) (fun c σ H' => ∃ (v5 v6 : Option V) (d : Nat), σ = [some (nI m), some (.ref a), some (.ref r), some (.ref D), some (nI d), v5, v6, none, none] ∧ Same H2 H' ∧ IsMost m ns ps c d)
        ⟨none, none, 0, rfl, fun _ _ e => e, isMost_zero m ns ps⟩ ?_ ?_⟩
      · rintro c σ H3 hc ⟨v5, v6, d, rfl, s3, hd⟩
        -- told
        refine ⟨_, rfl, D, rfl, ⟨_, SqL.of (s3 _ _ eD)⟩, fun T nT => ?_⟩
        refine lc_list (K := K) (a := D) (xs := ts.map V.ref) (fun i H' => Same H3 H' ∧ H' T = some (.lst (lI ((ps.map fun p => number m (sent m ns p) c).take i)))) ⟨same_upd nT, upd_same⟩ (fun i H' _ ⟨s4, _⟩ => SqL.of (s4 _ _ (s3 _ _ eD))) ?_ ?_
        · rintro i y H4 hi ⟨s4, eT⟩
          obtain ⟨b, p, rfl, hb, hp, hbp⟩ := at2.get hi
          refine ⟨rfl, _, rfl, _, rfl, b, _, _, _, rfl, rfl, SqT.of ((s3.trans s4) _ _ hbp), at_of (j := c) (by omega) (nums_at m _ hc), ?_⟩
          refine ⟨_, eT, ?_, same_mut s4 nT, ?_⟩
          · rw [lI_len]
            refine Nat.lt_of_le_of_lt (List.length_take_le' _ _) (small1000 ?_)
            rw [List.length_map]
            omega
          · rw [upd_same, take_snoc (x := number m (sent m ns p) c) (by rw [List.getElem?_map, hp]; rfl), lI_app]
            rfl
        · rintro H4 ⟨s4, eT⟩
          rw [List.length_map, at2.1, List.take_of_length_le (by rw [List.length_map]; exact Nat.le_refl _), lI_int] at eT
          have hpos : 0 < ((ps.map fun p => number m (sent m ns p) c).map fun x : Nat => (x : Int)).length := by
            rw [List.length_map, List.length_map]
            exact h0
          have hmem : ∀ x ∈ ps, ((number m (sent m ns x) c : Nat) : Int) ∈ ((ps.map fun p => number m (sent m ns p) c).map fun x : Nat => (x : Int)) := fun x hx => List.mem_map.mpr ⟨_, List.mem_map.mpr ⟨x, hx, rfl⟩, rfl⟩
          have hof : ∀ z ∈ ((ps.map fun p => number m (sent m ns p) c).map fun x : Nat => (x : Int)), ∃ p ∈ ps, z = ((number m (sent m ns p) c : Nat) : Int) := fun z hz => by
            obtain ⟨n, hn, rfl⟩ := List.mem_map.mp hz
            obtain ⟨p, hp, rfl⟩ := List.mem_map.mp hn
            exact ⟨p, hp, rfl⟩
          generalize ((ps.map fun p => number m (sent m ns p) c).map fun x : Nat => (x : Int)) = zs at eT hpos hmem hof
          refine ⟨_, rfl, _, rfl, T, zs, rfl, SqL.of eT, hpos, fun M hM1 hM2 => ⟨_, rfl, T, zs, rfl, SqL.of eT, hpos, fun L hL1 hL2 => ⟨_, _, rfl, rfl, _, _, rfl, ?_⟩⟩⟩
          obtain ⟨p, hp, rfl⟩ := hof M hM1
          obtain ⟨p', hp', rfl⟩ := hof L hL1
          have u1 : ∀ x ∈ ps, number m (sent m ns x) c ≤ number m (sent m ns p) c := fun x hx => by
            have := hM2 _ (hmem x hx)
            omega
          have u2 : ∀ x ∈ ps, number m (sent m ns p') c ≤ number m (sent m ns x) c := fun x hx => by
            have := hL2 _ (hmem x hx)
            omega
          have hle := u1 p' hp'
          have ez : (if ((number m (sent m ns p) c : Nat) : Int) - ((number m (sent m ns p') c : Nat) : Int) > (d : Int) then ((number m (sent m ns p) c : Nat) : Int) - ((number m (sent m ns p') c : Nat) : Int) else (d : Int)) = ((max d (number m (sent m ns p) c - number m (sent m ns p') c) : Nat) : Int) := by
            split <;> omega
          refine ⟨some (.int (0 + (c : Int))), some (.ref T), max d (number m (sent m ns p) c - number m (sent m ns p') c), ?_, s3.trans s4, isMost_succ hd hp hp' u1 u2⟩
          rw [ez]
          rfl
      · rintro σ H3 ⟨v5, v6, d, rfl, s3, hd⟩
        refine ⟨_, rfl, ?_⟩
        rw [← isMost_all hd]
        exact q H3 (s2.trans s3)
/-! ### all_rooms -/
def spRooms : Sp := fun vs H Q _ => ∃ m : Nat, vs = [nI m] ∧ m ≤ 9 ∧ ∀ (H' : Hp) (l : Addr) (as : List Addr), Same H H' → H l = none → H' l = some (.lst (as.map V.ref)) → AllAt (RoomAt H') as ((rooms m).map corners) → Q (.ref l) H'
theorem scRooms : FnScope ["m", "found", "j", "i"] ["m"] (defScope s_all_rooms) := ⟨rfl, rfl, rfl, by decide +kernel, rfl, by decide +kernel, by decide +kernel⟩
theorem ok_all_rooms {f : Addr} {fd : FuncData} (F : Fun K "all_rooms" "all_rooms" s_all_rooms f fd) (mr : mg "range" = none) : FnOk P w K mg base CX0 1 f fd ["m"] spRooms := by
  refine F.ok scRooms (fun vs H Q E h => ?_) (fun cdv A outer s H vs Q E hr h => ?_)
  · obtain ⟨m, rfl, _⟩ := h
    rfl
  · obtain ⟨m, rfl, h9, q⟩ := h
    refine ⟨_, pss_cons (ps_set (i := 1) scRooms.nd rfl (.inl rfl) (pe_lst pa_nil))
      (pss_cons (ps_for PassesOwn.never rfl (pi_range1 rfl mr (pa_cons (pv 0) pa_nil)) (pg_name (i := 2) scRooms.nd rfl (.inl rfl))
        (pss_one (ps_for PassesOwn.never rfl (pi_range1 rfl mr (pa_cons (pe_op op_sub (pv 0) (pv 2)) pa_nil)) (pg_name (i := 3) scRooms.nd rfl (.inl rfl))
          (pss_cons (ps_expr (pe_bm PySem.F.plainAttrs_list PySem.F.slot_list_append PySem.F.type_list_append mt_append (pv 1) (pa_cons (pe_tup (pa_cons (pe_tup (pa_cons (pv 3) (pa_cons (pv 2) pa_nil)))
              (pa_cons (pe_tup (pa_cons (pe_op op_add (pv 3) pe_int) (pa_cons (pv 2) pa_nil))) (pa_cons (pe_tup (pa_cons (pv 3) (pa_cons (pe_op op_add (pv 2) pe_int) pa_nil))) pa_nil)))) pa_nil)))
          (pss_one (ps_if (pt_cmpR op_lt (pe_op op_add (pv 3) (pv 2)) (pe_op op_sub (pv 0) pe_int) (nomark _))
            (pss_one (ps_expr (pe_bm PySem.F.plainAttrs_list PySem.F.slot_list_append PySem.F.type_list_append mt_append (pv 1) (pa_cons (pe_tup (pa_cons (pe_tup (pa_cons (pe_op op_add (pv 3) pe_int) (pa_cons (pe_op op_add (pv 2) pe_int) pa_nil)))
              (pa_cons (pe_tup (pa_cons (pv 3) (pa_cons (pe_op op_add (pv 2) pe_int) pa_nil))) (pa_cons (pe_tup (pa_cons (pe_op op_add (pv 3) pe_int) (pa_cons (pv 2) pa_nil))) pa_nil)))) pa_nil)))) pss_nil))))))
      (pss_one (ps_ret (pv 1)))), ?_⟩
    refine ⟨Nat.zero_le _, fun l nl => ?_⟩
    have t1 : ((m : Int)).toNat = m := by omega
    refine ⟨_, rfl, _, rfl, by omega, by omega, for_range (n := (m : Int).toNat) (fun j σ H' => ∃ (v2 v3 : Option V) (as : List Addr), σ = [some (nI m), some (.ref l), v2, v3] ∧ Same H H' ∧ H' l = some (.lst (as.map V.ref)) ∧ AllAt (RoomAt H') as (rRows m j))
      ⟨none, none, [], rfl, same_upd nl, upd_same, .nil⟩ ?_ ?_⟩
    · rintro j σ H1 hj ⟨v2, v3, as, rfl, s1, el, pa⟩
      rw [t1] at hj
      have t2 : (((m : Int) - (0 + (j : Int)))).toNat = m - j := by omega
      refine ⟨_, rfl, _, rfl, _, _, rfl, rfl, _, rfl, by omega, by omega, for_range (n := ((m : Int) - (0 + (j : Int))).toNat) (fun i σ H' => ∃ (v3 : Option V) (as : List Addr), σ = [some (nI m), some (.ref l), some (.int (0 + (j : Int))), v3] ∧ Same H H' ∧ H' l = some (.lst (as.map V.ref)) ∧ AllAt (RoomAt H') as (rPart m j i))
        ⟨v3, as, rfl, s1, el, by rw [rPart_zero]; exact pa⟩ ?_ ?_⟩
      · rintro i σ H2 hi ⟨v3, as, rfl, s2, el, pa⟩
        rw [t2] at hi
        have hlen : as.length ≤ 200 := by
          rw [pa.1]
          exact rPart_len h9 (by omega) (by omega)
        -- the room that points up
        refine ⟨_, rfl, .inl ⟨rfl, _, SqL.of el⟩, _, rfl, _, rfl, by show 2 ≤ sizeLine; decide, fun a1 n1 => ⟨_, rfl, _, _, rfl, rfl, _, rfl, by show 2 ≤ sizeLine; decide, fun a2 n2 => ⟨_, rfl, _, rfl, _, _, rfl, rfl, by show 2 ≤ sizeLine; decide, fun a3 n3 => ⟨by show 3 ≤ sizeLine; decide, fun a4 n4 => ?_⟩⟩⟩⟩
        have e1 : (HO.tup [V.int (0 + (i : Int)), V.int (0 + (j : Int))]) = pT ⟨i, j⟩ := by rw [Int.zero_add, Int.zero_add]
        have e2 : (HO.tup [V.int (0 + (i : Int) + 1), V.int (0 + (j : Int))]) = pT ⟨i + 1, j⟩ := by
          rw [Int.zero_add, Int.zero_add]
          rfl
        have e3 : (HO.tup [V.int (0 + (i : Int)), V.int (0 + (j : Int) + 1)]) = pT ⟨i, j + 1⟩ := by
          rw [Int.zero_add, Int.zero_add]
          rfl
        have e4 : (HO.tup [V.int (0 + (i : Int) + 1), V.int (0 + (j : Int) + 1)]) = pT ⟨i + 1, j + 1⟩ := by
          rw [Int.zero_add, Int.zero_add]
          rfl
        have s3 := same_upd (o := pT ⟨i, j⟩) n1
        have x1 : upd H2 a1 (pT ⟨i, j⟩) a1 = some (pT ⟨i, j⟩) := upd_same
        rw [show upd H2 a1 (HO.tup [V.int (0 + (i : Int)), V.int (0 + (j : Int))]) = upd H2 a1 (pT ⟨i, j⟩) by rw [e1]] at n2 n3 n4 ⊢
        generalize upd H2 a1 (pT ⟨i, j⟩) = H3 at s3 x1 n2 n3 n4 ⊢
        have s4 := same_upd (o := pT ⟨i + 1, j⟩) n2
        have x2 : upd H3 a2 (pT ⟨i + 1, j⟩) a2 = some (pT ⟨i + 1, j⟩) := upd_same
        rw [show upd H3 a2 ((HO.tup [V.int (0 + (i : Int) + 1), V.int (0 + (j : Int))])) = upd H3 a2 (pT ⟨i + 1, j⟩) by rw [e2]] at n3 n4 ⊢
        generalize upd H3 a2 (pT ⟨i + 1, j⟩) = H4 at s4 x2 n3 n4 ⊢
        have s5 := same_upd (o := pT ⟨i, j + 1⟩) n3
        have x3 : upd H4 a3 (pT ⟨i, j + 1⟩) a3 = some (pT ⟨i, j + 1⟩) := upd_same
        rw [show upd H4 a3 ((HO.tup [V.int (0 + (i : Int)), V.int (0 + (j : Int) + 1)])) = upd H4 a3 (pT ⟨i, j + 1⟩) by rw [e3]] at n4 ⊢
        generalize upd H4 a3 (pT ⟨i, j + 1⟩) = H5 at s5 x3 n4 ⊢
        have s6 := same_upd (o := .tup [.ref a1, .ref a2, .ref a3]) n4
        have x4 : upd H5 a4 (.tup [.ref a1, .ref a2, .ref a3]) a4 = some (.tup [.ref a1, .ref a2, .ref a3]) := upd_same
        generalize upd H5 a4 (.tup [.ref a1, .ref a2, .ref a3]) = H6 at s6 x4 ⊢
        have s26 : Same H2 H6 := s3.trans (s4.trans (s5.trans s6))
        have rU : RoomAt H6 a4 (upC i j) := room_mk ((s4.trans (s5.trans s6)) _ _ x1) ((s5.trans s6) _ _ x2) (s6 _ _ x3) x4
        have pa6 := (pa.imp fun a x h => h.mono s26).snoc rU
        refine ⟨l, _, _, rfl, rfl, s26 _ _ el, by rw [List.length_map]; exact small1000 (by omega), ?_⟩
        have s7 : Same H (upd H6 l (.lst (as.map V.ref ++ [.ref a4]))) := same_mut (s2.trans s26) nl
        have pa7 : AllAt (RoomAt (upd H6 l (.lst (as.map V.ref ++ [.ref a4])))) (as ++ [a4]) (rPart m j i ++ [upC i j]) := pa6.imp fun a x h => h.put (s26 _ _ el)
        have el7 : upd H6 l (.lst (as.map V.ref ++ [.ref a4])) l = some (.lst ((as ++ [a4]).map V.ref)) := by
          rw [upd_same, List.map_append]
          rfl
        generalize upd H6 l (.lst (as.map V.ref ++ [.ref a4])) = H7 at s7 pa7 el7 ⊢
        -- if i + j < m - 1
        refine ⟨_, rfl, _, rfl, _, _, rfl, rfl, _, rfl, _, _, rfl, rfl, _, _, rfl, rfl, _, rfl, ite2 (fun z => ?_) (fun z => ?_)⟩
        · have z : 0 + (i : Int) + (0 + (j : Int)) < (m : Int) - 1 := of_decide_eq_true z
          refine ⟨_, rfl, .inl ⟨rfl, _, SqL.of el7⟩, _, rfl, _, _, rfl, rfl, _, rfl, _, _, rfl, rfl, by show 2 ≤ sizeLine; decide, fun b1 k1 => ⟨_, rfl, _, rfl, _, _, rfl, rfl, by show 2 ≤ sizeLine; decide, fun b2 k2 => ⟨_, rfl, _, _, rfl, rfl, _, rfl, by show 2 ≤ sizeLine; decide, fun b3 k3 => ⟨by show 3 ≤ sizeLine; decide, fun b4 k4 => ?_⟩⟩⟩⟩
          have u3 := same_upd (o := pT ⟨i + 1, j + 1⟩) k1
          have y1 : upd H7 b1 (pT ⟨i + 1, j + 1⟩) b1 = some (pT ⟨i + 1, j + 1⟩) := upd_same
          rw [show upd H7 b1 (HO.tup [V.int (0 + (i : Int) + 1), V.int (0 + (j : Int) + 1)]) = upd H7 b1 (pT ⟨i + 1, j + 1⟩) by rw [e4]] at k2 k3 k4 ⊢
          generalize upd H7 b1 (pT ⟨i + 1, j + 1⟩) = G3 at u3 y1 k2 k3 k4 ⊢
          have u4 := same_upd (o := pT ⟨i, j + 1⟩) k2
          have y2 : upd G3 b2 (pT ⟨i, j + 1⟩) b2 = some (pT ⟨i, j + 1⟩) := upd_same
          rw [show upd G3 b2 (HO.tup [V.int (0 + (i : Int)), V.int (0 + (j : Int) + 1)]) = upd G3 b2 (pT ⟨i, j + 1⟩) by rw [e3]] at k3 k4 ⊢
          generalize upd G3 b2 (pT ⟨i, j + 1⟩) = G4 at u4 y2 k3 k4 ⊢
          have u5 := same_upd (o := pT ⟨i + 1, j⟩) k3
          have y3 : upd G4 b3 (pT ⟨i + 1, j⟩) b3 = some (pT ⟨i + 1, j⟩) := upd_same
          rw [show upd G4 b3 (HO.tup [V.int (0 + (i : Int) + 1), V.int (0 + (j : Int))]) = upd G4 b3 (pT ⟨i + 1, j⟩) by rw [e2]] at k4 ⊢
          generalize upd G4 b3 (pT ⟨i + 1, j⟩) = G5 at u5 y3 k4 ⊢
          have u6 := same_upd (o := .tup [.ref b1, .ref b2, .ref b3]) k4
          have y4 : upd G5 b4 (.tup [.ref b1, .ref b2, .ref b3]) b4 = some (.tup [.ref b1, .ref b2, .ref b3]) := upd_same
          generalize upd G5 b4 (.tup [.ref b1, .ref b2, .ref b3]) = G6 at u6 y4 ⊢
          have u26 : Same H7 G6 := u3.trans (u4.trans (u5.trans u6))
          have rD : RoomAt G6 b4 (dnC i j) := room_mk ((u4.trans (u5.trans u6)) _ _ y1) ((u5.trans u6) _ _ y2) (u6 _ _ y3) y4
          have qa6 := (pa7.imp fun a x h => h.mono u26).snoc rD
          refine ⟨l, _, _, rfl, rfl, u26 _ _ el7, by rw [List.length_map, List.length_append, List.length_singleton]; exact small1000 (by omega), ?_⟩
          refine ⟨_, (as ++ [a4]) ++ [b4], rfl, same_mut (s7.trans u26) nl, ?_, ?_⟩
          · rw [upd_same, List.map_append (l₁ := as ++ [a4])]
            rfl
          · have er : rPart m j (i + 1) = (rPart m j i ++ [upC i j]) ++ [dnC i j] := by
              rw [rPart_succ]
              unfold oneC
              rw [if_pos (by omega), List.append_assoc]
              rfl
            rw [er]
            exact qa6.imp fun a x h => h.put (u26 _ _ el7)
        · have z : ¬ 0 + (i : Int) + (0 + (j : Int)) < (m : Int) - 1 := fun y => z (decide_eq_true y)
          refine ⟨_, as ++ [a4], rfl, s7, el7, ?_⟩
          have er : rPart m j (i + 1) = rPart m j i ++ [upC i j] := by
            rw [rPart_succ]
            unfold oneC
            rw [if_neg (by omega)]
          rw [er]
          exact pa7
      · rintro σ H2 ⟨v3, as, rfl, s2, el, pa⟩
        rw [t2, ← rRows_succ] at pa
        exact ⟨_, _, as, rfl, s2, el, pa⟩
    · rintro σ H1 ⟨v2, v3, as, rfl, s1, el, pa⟩
      rw [t1, rRows_all] at pa
      exact ⟨_, rfl, q H1 l as s1 nl el pa⟩
/-! ### apart -/
def spApart (K : PySem.W.Frag) : Sp := fun vs H Q _ => ∃ (m : Nat) (a : Addr) (f : List Nat), vs = [nI m, .ref a] ∧ SqL K H a (lI f) ∧ ∀ (H' : Hp) (p : Addr), H' p = some (.lst ((aL (.apart m f)).map V.int)) → Q (.ref p) H'
theorem scApart : FnScope ["m", "f", "room"] ["m", "f"] (defScope s_apart) := ⟨rfl, rfl, rfl, by decide +kernel, rfl, by decide +kernel, by decide +kernel⟩
theorem ok_apart {f fM fI fR : Addr} {fd fdM fdI fdR : FuncData} {t22 : Tok} (F : Fun K "apart" "apart" s_apart f fd) (FM : Fun K "is_map" "is_map" s_is_map fM fdM) (FI : Fun K "apart_in_room" "apart_in_room" s_apart_in_room fI fdI) (FR : Fun K "all_rooms" "all_rooms" s_all_rooms fR fdR)
    (GM : FnOk P w K mg base CX0 2 fM fdM ["m", "f"] (spIsMap K)) (GI : FnOk P w K mg base CX0 3 fI fdI ["m", "f", "room"] (spInRoom K)) (GR : FnOk P w K mg base CX0 1 fR fdR ["m"] spRooms) (bM : Binds K fdM ["m", "f"] []) (bI : Binds K fdI ["m", "f", "room"] []) (bR : Binds K fdR ["m"] [])
    (gM : mg "is_map" = some (.ref fM)) (gI : mg "apart_in_room" = some (.ref fI)) (gR : mg "all_rooms" = some (.ref fR)) (g22 : mg "NOT_AS_TOLD" = some (.int (-22) t22)) (mx : mg "max" = none) : FnOk P w K mg base CX0 4 f fd ["m", "f"] (spApart K) := by
  refine F.ok scApart (fun vs H Q E h => ?_) (fun cdv A outer s H vs Q E hr h => ?_)
  · obtain ⟨m, a, ns, rfl, _⟩ := h
    rfl
  · obtain ⟨m, a, ns, rfl, ha, q⟩ := h
    have hr1 : Room 1 _ := hr.mono (by decide)
    have hr2 : Room 2 _ := hr.mono (by decide)
    refine ⟨_, pss_cons (ps_if (pt_not (pt_val (pe_call GM hr2 rfl gM FM.kp bM .nil pass0 (pa_cons (pv 0) (pa_cons (pv 1) pa_nil))))) (pss_one (ps_ret (pe_lst (pa_cons (pe_glob (v := .int (-22)) rfl g22 ⟨_, rfl⟩) pa_nil)))) pss_nil)
      (pss_one (ps_ret (pe_lst (pa_cons (pe_callB (cr_max rfl) (by rfl) mx (by decide +kernel) (pa_cons (pe_lc (own := [("room", 2)]) (g := gName 2) (tt := tYes) (te := tCall (spInRoom K) [] E0 (tCons (tVar 0) (tCons (tVar 1) (tCons (tVar 2) tNil)))) rfl scApart.nd
        (pi_list (pe_call GR hr1 rfl gR FR.kp bR .nil pass0 (pa_cons (pv 0) pa_nil))) (blkOk_by (own := [("room", 2)]) (N := ["m", "f", "room"]) (sc := defScope s_apart) (by decide +kernel))
        (fun _ _ _ _ _ => pg_name (i := 2) scApart.nd rfl (.inl rfl)) (fun _ _ _ _ _ => pts_nil)
        (fun _ _ _ _ _ => pe_call GI hr rfl gI FI.kp bI .nil pass0 (pa_cons (pv 0) (pa_cons (pv 1) (pa_cons (pv 2) pa_nil))))) pa_nil)) pa_nil)))), ?_⟩
    refine ⟨_, rfl, _, rfl, m, a, ns, rfl, ha, _, rfl, ?_⟩
    cases hM : okAll m ns with
    | false =>
      refine iteT ⟨by show 1 ≤ sizeLine; decide, fun p hp => ?_⟩
      refine q _ p ?_
      have e : aL (.apart m ns) = [-22] := by
        unfold aL
        rw [ans_apart, if_pos (okAll_f hM)]
        rfl
      rw [e]
      exact upd_same
    | true =>
      obtain ⟨hm, ho⟩ : okM m = true ∧ okMap m ns = true := by unfold okAll at hM; rwa [Bool.and_eq_true] at hM
      obtain ⟨h1, h9⟩ := okM_iff.mp hm
      have hl81 := rooms_le m (by omega)
      refine iteF ?_
      refine ⟨_, rfl, m, rfl, h9, fun H1 l as s1 nl el pa => ⟨l, rfl, ⟨_, SqL.of el⟩, fun D nD => ?_⟩⟩
      have hal : as.length = (rooms m).length := by rw [pa.1, List.length_map]
      refine lc_list (K := K) (a := l) (xs := as.map V.ref) (fun i H' => Same H1 H' ∧ H' D = some (.lst (lI (((rooms m).map fun r => roomA m ns (corners r)).take i)))) ⟨same_upd nD, upd_same⟩ (fun i H' _ ⟨s2, _⟩ => SqL.of (s2 _ _ el)) ?_ ?_
      · rintro i y H2 hi ⟨s2, eD⟩
        obtain ⟨b, ps, rfl, hb, hps, hbp⟩ := pa.get hi
        have hk : i < (rooms m).length := by
          rw [← hal]
          exact (List.getElem?_eq_some_iff.mp hb).1
        rw [List.getElem?_map, List.getElem?_eq_getElem hk] at hps
        have ep : corners (rooms m)[i] = ps := Option.some.inj hps
        subst ep
        have hmem := List.getElem_mem hk
        have h3 : (corners (rooms m)[i]).length = 3 := by
          obtain ⟨x, y, z, e⟩ := corners_three (rooms m)[i]
          rw [e]
          rfl
        refine ⟨rfl, _, rfl, _, rfl, _, rfl, m, a, b, ns, corners (rooms m)[i], rfl, h9, ho, (s1.trans s2).seq ha, hbp.mono s2, by omega, by omega, fun p hp => room_in hmem hp, fun H4 s4 => ?_⟩
        refine ⟨_, s4 _ _ eD, ?_, same_mut (s2.trans s4) nD, ?_⟩
        · rw [lI_len]
          refine Nat.lt_of_le_of_lt (List.length_take_le' _ _) (small1000 ?_)
          rw [List.length_map]
          omega
        · rw [upd_same, take_snoc (x := roomA m ns (corners (rooms m)[i])) (by rw [List.getElem?_map, List.getElem?_eq_getElem hk]; rfl), lI_app]
          rfl
      · rintro H2 ⟨s2, eD⟩
        rw [List.length_map, hal, List.take_of_length_le (by rw [List.length_map]; exact Nat.le_refl _), lI_int] at eD
        refine ⟨D, _, rfl, SqL.of eD, by rw [List.length_map, List.length_map]; exact rooms_pos h1, fun M hM1 hM2 => ⟨by show 1 ≤ sizeLine; decide, fun p np => q _ p ?_⟩⟩
        obtain ⟨n, hn, rfl⟩ := List.mem_map.mp hM1
        obtain ⟨r, hr', er⟩ := List.mem_map.mp hn
        have ea : Kzs3.apart m ns = n := apart_eq (fun r' hr'' => by
          have := hM2 _ (List.mem_map.mpr ⟨_, List.mem_map.mpr ⟨r', hr'', rfl⟩, rfl⟩)
          omega) ⟨r, hr', er⟩
        have e : aL (.apart m ns) = [((Kzs3.apart m ns : Nat) : Int)] := by
          unfold aL
          rw [ans_apart, if_neg (okAll_t hM)]
          rfl
        rw [e, ea]
        exact upd_same
/-! ### the request -/
theorem int_nat {z : Int} (h : Codec.inInt 0 4294967295 z = true) : ∃ n : Nat, z = (n : Int) := by
  have q : 0 ≤ z ∧ z ≤ 4294967295 := by
    unfold Codec.inInt at h
    simpa using h
  exact ⟨z.toNat, by omega⟩
theorem ints_nats : ∀ {l : List Int}, l.all (Codec.inInt 0 4294967295) = true → ∃ f : List Nat, l = f.map fun x : Nat => (x : Int)
  | [], _ => ⟨[], rfl⟩
  | z :: r, h => by
    rw [List.all_cons, Bool.and_eq_true] at h
    obtain ⟨n, rfl⟩ := int_nat h.1
    obtain ⟨f, rfl⟩ := ints_nats h.2
    exact ⟨n :: f, rfl⟩

theorem request {K : PySem.W.Frag} {H : Hp} {xs : List V} {a : Codec.denoteAll PySem.Challenge.rw_fixedcakes_s05_apart.args} (hwi : Codec.withinAll PySem.Challenge.rw_fixedcakes_s05_apart.args a = true) (hx : DwAll K H xs (Codec.encAll PySem.Challenge.rw_fixedcakes_s05_apart.args a)) :
    spApart K xs H (fun v H' => Dw K H' v (PySem.Challenge.rw_fixedcakes_s05_apart.ret.enc (Codec.app PySem.Challenge.rw_fixedcakes_s05_apart.args PySem.Challenge.rw_fixedcakes_s05_apart.f a))) fun _ _ _ => False := by
  obtain ⟨m, f, u⟩ := a
  have q : (Codec.inInt 0 4294967295 m && ((Codec.inLen 0 200 f && f.all (Codec.inInt 0 4294967295)) && true)) = true := hwi
  simp only [Bool.and_eq_true] at q
  obtain ⟨q_m, ⟨r_f, q_f⟩, _⟩ := q
  obtain ⟨m, rfl⟩ := int_nat q_m
  obtain ⟨f, rfl⟩ := ints_nats q_f
  cases hx with
  | cons h_m hx =>
    cases hx with
    | cons h_f hx =>
      cases hx
      cases h_m
      cases h_f with
      | lst hs_f ha_f =>
        have e := L2.ints_dw _ _ ha_f
        subst e
        rw [List.map_map] at hs_f
        refine ⟨m, _, f, rfl, hs_f, fun H' p hp => ?_⟩
        have e : PyKzs3.apart (m : Int) (f.map fun x : Nat => (x : Int)) = aL (.apart m f) := by
          show aL (.apart (m : Int).toNat (Kzs3Neutral.natsOf (f.map fun x : Nat => (x : Int)))) = _
          rw [natsOf_cast]
          rfl
        show Dw K H' (.ref p) (.list ((PyKzs3.apart (m : Int) (f.map fun x : Nat => (x : Int))).map WData.int))
        rw [e]
        exact .lst (L2.SqL.of hp) (L2.dw_ints _)
end
/-! ### what the top has written -/
theorem all_mk {P : Program} {w : World} {K : PySem.W.Frag} {h : Heap} {mg : Str → Option Value} {fa : Addr} (X : K.In h) (G : h.Ns mainGlobals mg) (hfa : mg "apart" = some (.ref fa))
    {f1 : Addr} {od1 an1 : Option Addr} {sl1 : Array (Option Value)} {oc1 kV1 dc1 pm1 cd1 ct1 : Value}
    {f2 : Addr} {od2 an2 : Option Addr} {sl2 : Array (Option Value)} {oc2 kV2 dc2 pm2 cd2 ct2 : Value}
    {f3 : Addr} {od3 an3 : Option Addr} {sl3 : Array (Option Value)} {oc3 kV3 dc3 pm3 cd3 ct3 : Value}
    {f4 : Addr} {od4 an4 : Option Addr} {sl4 : Array (Option Value)} {oc4 kV4 dc4 pm4 cd4 ct4 : Value}
    {f5 : Addr} {od5 an5 : Option Addr} {sl5 : Array (Option Value)} {oc5 kV5 dc5 pm5 cd5 ct5 : Value}
    {f6 : Addr} {od6 an6 : Option Addr} {sl6 : Array (Option Value)} {oc6 kV6 dc6 pm6 cd6 ct6 : Value}
    {f7 : Addr} {od7 an7 : Option Addr} {sl7 : Array (Option Value)} {oc7 kV7 dc7 pm7 cd7 ct7 : Value}
    {f8 : Addr} {od8 an8 : Option Addr} {sl8 : Array (Option Value)} {oc8 kV8 dc8 pm8 cd8 ct8 : Value}
    {f9 : Addr} {od9 an9 : Option Addr} {sl9 : Array (Option Value)} {oc9 kV9 dc9 pm9 cd9 ct9 : Value}
    {t_NOT_AS_TOLD : Tok} (g_NOT_AS_TOLD : PySem.W.nsIn K mainGlobals "NOT_AS_TOLD" = some (some (.int (-22) t_NOT_AS_TOLD)))
    {t_GREATEST_SIZE : Tok} (g_GREATEST_SIZE : PySem.W.nsIn K mainGlobals "GREATEST_SIZE" = some (some (.int (9) t_GREATEST_SIZE)))
    (a1 : PySem.W.nsIn K mainGlobals "is_size" = some (some (.ref f1))) (l1 : K.lookup f1 = some ⟨oc1, od1, .func (PySem.W.fnOf "is_size" "is_size" (defArgs s_is_size) (defBody s_is_size) (defScope s_is_size) .none kV1 dc1 pm1 an1 cd1 ct1), sl1⟩) (c1 : PySem.W.codeIn K cd1 "is_size" = true) (k1 : PySem.W.keepIn K (.ref f1) = true)
    (a2 : PySem.W.nsIn K mainGlobals "count_places" = some (some (.ref f2))) (l2 : K.lookup f2 = some ⟨oc2, od2, .func (PySem.W.fnOf "count_places" "count_places" (defArgs s_count_places) (defBody s_count_places) (defScope s_count_places) .none kV2 dc2 pm2 an2 cd2 ct2), sl2⟩) (c2 : PySem.W.codeIn K cd2 "count_places" = true) (k2 : PySem.W.keepIn K (.ref f2) = true)
    (a3 : PySem.W.nsIn K mainGlobals "place_index" = some (some (.ref f3))) (l3 : K.lookup f3 = some ⟨oc3, od3, .func (PySem.W.fnOf "place_index" "place_index" (defArgs s_place_index) (defBody s_place_index) (defScope s_place_index) .none kV3 dc3 pm3 an3 cd3 ct3), sl3⟩) (c3 : PySem.W.codeIn K cd3 "place_index" = true) (k3 : PySem.W.keepIn K (.ref f3) = true)
    (a4 : PySem.W.nsIn K mainGlobals "three_numbers" = some (some (.ref f4))) (l4 : K.lookup f4 = some ⟨oc4, od4, .func (PySem.W.fnOf "three_numbers" "three_numbers" (defArgs s_three_numbers) (defBody s_three_numbers) (defScope s_three_numbers) .none kV4 dc4 pm4 an4 cd4 ct4), sl4⟩) (c4 : PySem.W.codeIn K cd4 "three_numbers" = true) (k4 : PySem.W.keepIn K (.ref f4) = true)
    (a5 : PySem.W.nsIn K mainGlobals "all_rooms" = some (some (.ref f5))) (l5 : K.lookup f5 = some ⟨oc5, od5, .func (PySem.W.fnOf "all_rooms" "all_rooms" (defArgs s_all_rooms) (defBody s_all_rooms) (defScope s_all_rooms) .none kV5 dc5 pm5 an5 cd5 ct5), sl5⟩) (c5 : PySem.W.codeIn K cd5 "all_rooms" = true) (k5 : PySem.W.keepIn K (.ref f5) = true)
    (a6 : PySem.W.nsIn K mainGlobals "is_map" = some (some (.ref f6))) (l6 : K.lookup f6 = some ⟨oc6, od6, .func (PySem.W.fnOf "is_map" "is_map" (defArgs s_is_map) (defBody s_is_map) (defScope s_is_map) .none kV6 dc6 pm6 an6 cd6 ct6), sl6⟩) (c6 : PySem.W.codeIn K cd6 "is_map" = true) (k6 : PySem.W.keepIn K (.ref f6) = true)
    (a7 : PySem.W.nsIn K mainGlobals "sent_to" = some (some (.ref f7))) (l7 : K.lookup f7 = some ⟨oc7, od7, .func (PySem.W.fnOf "sent_to" "sent_to" (defArgs s_sent_to) (defBody s_sent_to) (defScope s_sent_to) .none kV7 dc7 pm7 an7 cd7 ct7), sl7⟩) (c7 : PySem.W.codeIn K cd7 "sent_to" = true) (k7 : PySem.W.keepIn K (.ref f7) = true)
    (a8 : PySem.W.nsIn K mainGlobals "apart_in_room" = some (some (.ref f8))) (l8 : K.lookup f8 = some ⟨oc8, od8, .func (PySem.W.fnOf "apart_in_room" "apart_in_room" (defArgs s_apart_in_room) (defBody s_apart_in_room) (defScope s_apart_in_room) .none kV8 dc8 pm8 an8 cd8 ct8), sl8⟩) (c8 : PySem.W.codeIn K cd8 "apart_in_room" = true) (k8 : PySem.W.keepIn K (.ref f8) = true)
    (a9 : PySem.W.nsIn K mainGlobals "apart" = some (some (.ref f9))) (l9 : K.lookup f9 = some ⟨oc9, od9, .func (PySem.W.fnOf "apart" "apart" (defArgs s_apart) (defBody s_apart) (defScope s_apart) .none kV9 dc9 pm9 an9 cd9 ct9), sl9⟩) (c9 : PySem.W.codeIn K cd9 "apart" = true) (k9 : PySem.W.keepIn K (.ref f9) = true)
    (z_len : PySem.W.nsIn K mainGlobals "len" = some none)
    (z_max : PySem.W.nsIn K mainGlobals "max" = some none)
    (z_min : PySem.W.nsIn K mainGlobals "min" = some none)
    (z_range : PySem.W.nsIn K mainGlobals "range" = some none)
    : ∃ fd : FuncData, (∀ (s : Shared) (us : List Value), us.length = (["m", "f"] : List Str).length → BindsTo s fd ⟨us, []⟩ ((["m", "f"] : List Str).zip us)) ∧ ∀ base : Heap, K.In base → base.Ns mainGlobals mg → FnOk P w K mg base CX0 4 fa fd ["m", "f"] (spApart K) := by
  have e := hfa.symm.trans (PySem.W.mg_of X G a9)
  cases e
  have F_is_size := fun_mk (st := s_is_size) l1 c1 k1
  have m_is_size := PySem.W.mg_of X G a1
  have b_is_size := F_is_size.binds (ps := ["m"]) fun _ _ _ _ _ _ us hl => match us, hl with | [_], _ => rfl
  have F_count_places := fun_mk (st := s_count_places) l2 c2 k2
  have m_count_places := PySem.W.mg_of X G a2
  have b_count_places := F_count_places.binds (ps := ["m"]) fun _ _ _ _ _ _ us hl => match us, hl with | [_], _ => rfl
  have F_place_index := fun_mk (st := s_place_index) l3 c3 k3
  have m_place_index := PySem.W.mg_of X G a3
  have b_place_index := F_place_index.binds (ps := ["m", "place"]) fun _ _ _ _ _ _ us hl => match us, hl with | [_, _], _ => rfl
  have F_three_numbers := fun_mk (st := s_three_numbers) l4 c4 k4
  have m_three_numbers := PySem.W.mg_of X G a4
  have b_three_numbers := F_three_numbers.binds (ps := ["m", "place"]) fun _ _ _ _ _ _ us hl => match us, hl with | [_, _], _ => rfl
  have F_all_rooms := fun_mk (st := s_all_rooms) l5 c5 k5
  have m_all_rooms := PySem.W.mg_of X G a5
  have b_all_rooms := F_all_rooms.binds (ps := ["m"]) fun _ _ _ _ _ _ us hl => match us, hl with | [_], _ => rfl
  have F_is_map := fun_mk (st := s_is_map) l6 c6 k6
  have m_is_map := PySem.W.mg_of X G a6
  have b_is_map := F_is_map.binds (ps := ["m", "f"]) fun _ _ _ _ _ _ us hl => match us, hl with | [_, _], _ => rfl
  have F_sent_to := fun_mk (st := s_sent_to) l7 c7 k7
  have m_sent_to := PySem.W.mg_of X G a7
  have b_sent_to := F_sent_to.binds (ps := ["m", "f", "place"]) fun _ _ _ _ _ _ us hl => match us, hl with | [_, _, _], _ => rfl
  have F_apart_in_room := fun_mk (st := s_apart_in_room) l8 c8 k8
  have m_apart_in_room := PySem.W.mg_of X G a8
  have b_apart_in_room := F_apart_in_room.binds (ps := ["m", "f", "room"]) fun _ _ _ _ _ _ us hl => match us, hl with | [_, _, _], _ => rfl
  have F_apart := fun_mk (st := s_apart) l9 c9 k9
  have m_apart := PySem.W.mg_of X G a9
  have m_NOT_AS_TOLD := PySem.W.mg_of X G g_NOT_AS_TOLD
  have m_GREATEST_SIZE := PySem.W.mg_of X G g_GREATEST_SIZE
  have m_len := PySem.W.mg_none_of X G z_len
  have m_max := PySem.W.mg_none_of X G z_max
  have m_min := PySem.W.mg_none_of X G z_min
  have m_range := PySem.W.mg_none_of X G z_range
  refine ⟨PySem.W.fnOf "apart" "apart" (defArgs s_apart) (defBody s_apart) (defScope s_apart) .none kV9 dc9 pm9 an9 cd9 ct9, fun s us hu => match us, hu with | [_, _], _ => .of_eq rfl, fun base _ _ => ?_⟩
  have G_is_size := ok_is_size (P := P) (w := w) (mg := mg) (base := base) F_is_size m_GREATEST_SIZE
  have G_count_places := ok_count_places (P := P) (w := w) (mg := mg) (base := base) F_count_places
  have G_is_map := ok_is_map (P := P) (w := w) (mg := mg) (base := base) F_is_map F_is_size F_count_places G_is_size G_count_places b_is_size b_count_places m_is_size m_count_places m_len m_range
  have G_three_numbers := ok_three_numbers (P := P) (w := w) (mg := mg) (base := base) F_three_numbers
  have G_place_index := ok_place_index (P := P) (w := w) (mg := mg) (base := base) F_place_index
  have G_sent_to := ok_sent_to (P := P) (w := w) (mg := mg) (base := base) F_sent_to F_place_index G_place_index b_place_index m_place_index
  have G_apart_in_room := ok_apart_in_room (P := P) (w := w) (mg := mg) (base := base) F_apart_in_room F_three_numbers F_sent_to G_three_numbers G_sent_to b_three_numbers b_sent_to m_three_numbers m_sent_to m_range m_max m_min
  have G_all_rooms := ok_all_rooms (P := P) (w := w) (mg := mg) (base := base) F_all_rooms m_range
  exact ok_apart (P := P) (w := w) (mg := mg) (base := base) F_apart F_is_map F_apart_in_room F_all_rooms G_is_map G_apart_in_room G_all_rooms b_is_map b_apart_in_room b_all_rooms m_is_map m_apart_in_room m_all_rooms m_NOT_AS_TOLD m_max
end Fc
open PySem PySem.W PyProof.Rows
set_option maxRecDepth 100000 in
set_option maxHeartbeats 0 in
theorem PySem.Challenge.cw_fixedcakes_s05_apart_holds : PySem.Challenge.rw_fixedcakes_s05_apart.Holds := by
  w_on; k_headS; (case hw => exact ⟨[.int 0, .list []], by decide +kernel, by decide +kernel⟩)
  k_fillS
  refine L2.walk_specK (r := PySem.Challenge.rw_fixedcakes_s05_apart) (k := 4) (CX := L2.CX0) (ps := ["m", "f"]) (sp := Fc.spApart) (by decide +kernel) rfl rfl ⟨rfl, by decide, by decide⟩ (fun w h Y => PySem.W.kIn_of Y) ?F ?S (fun _ _ _ _ z => z)
  case F =>
    intro w mg fa h Y KX G hmg
    refine' Fc.all_mk KX G hmg ?g_NOT_AS_TOLD ?g_GREATEST_SIZE ?a1 ?l1 ?c1 ?k1 ?a2 ?l2 ?c2 ?k2 ?a3 ?l3 ?c3 ?k3 ?a4 ?l4 ?c4 ?k4 ?a5 ?l5 ?c5 ?k5 ?a6 ?l6 ?c6 ?k6 ?a7 ?l7 ?c7 ?k7 ?a8 ?l8 ?c8 ?k8 ?a9 ?l9 ?c9 ?k9 ?z_len ?z_max ?z_min ?z_range
    (case g_NOT_AS_TOLD => k_is)
    (case g_GREATEST_SIZE => k_is)
    (case a1 => k_is)
    (case l1 => k_is)
    (case c1 => k_is)
    (case k1 => k_is)
    (case a2 => k_is)
    (case l2 => k_is)
    (case c2 => k_is)
    (case k2 => k_is)
    (case a3 => k_is)
    (case l3 => k_is)
    (case c3 => k_is)
    (case k3 => k_is)
    (case a4 => k_is)
    (case l4 => k_is)
    (case c4 => k_is)
    (case k4 => k_is)
    (case a5 => k_is)
    (case l5 => k_is)
    (case c5 => k_is)
    (case k5 => k_is)
    (case a6 => k_is)
    (case l6 => k_is)
    (case c6 => k_is)
    (case k6 => k_is)
    (case a7 => k_is)
    (case l7 => k_is)
    (case c7 => k_is)
    (case k7 => k_is)
    (case a8 => k_is)
    (case l8 => k_is)
    (case c8 => k_is)
    (case k8 => k_is)
    (case a9 => k_is)
    (case l9 => k_is)
    (case c9 => k_is)
    (case k9 => k_is)
    (case z_len => k_is)
    (case z_max => k_is)
    (case z_min => k_is)
    (case z_range => k_is)
  case S =>
    intro K H xs a hO hwi hask hx
    exact Fc.request hwi hx
#print axioms PySem.Challenge.cw_fixedcakes_s05_apart_holds
