import PyProof.Rows.All
import Wide.All
import OpenK.AllK
import Wide.FinOn
import GlaPlan
import Open.SpecLaws
import KE.OsHead
import KE.OsGo
import HandS.ForSpec
import HandS.Comp
import HandS.Dict
import HandS.Iter
import HandS.Walk
import HandS.Zip
import HandS.Wide
import HandS.WideBits
import HandS.Evl
import HandS.TupLe
import PySem.Challenge.RW_leadstrips_s02_pieces
import HandS.SetFor
import KE.KDictZip
import HandS.More
import HandS.WordsDict
import HandS.NoneIn
import HandS.Deep
import HandS.Codes
import KE.GoesEnumKw
import GlaLead
import HandS.SortRule
import PyYqglca
section PGeo1
open GlaPlan
namespace Geo

/-! ## signs of products -/
theorem pp {a b : Int} (ha : 0 < a) (hb : 0 < b) : 0 < a * b := Int.mul_pos ha hb
theorem pn {a b : Int} (ha : 0 < a) (hb : b < 0) : a * b < 0 := Int.mul_neg_of_pos_of_neg ha hb
theorem np {a b : Int} (ha : a < 0) (hb : 0 < b) : a * b < 0 := Int.mul_neg_of_neg_of_pos ha hb
theorem nn {a b : Int} (ha : a < 0) (hb : b < 0) : 0 < a * b := Int.mul_pos_of_neg_of_neg ha hb
theorem mle {a b c : Int} (h : a ≤ b) (hc : 0 ≤ c) : a * c ≤ b * c := Int.mul_le_mul_of_nonneg_right h hc
theorem pp0 {a b : Int} (ha : 0 ≤ a) (hb : 0 ≤ b) : 0 ≤ a * b := Int.mul_nonneg ha hb
theorem pos_l {a b : Int} (h : 0 < a * b) (hb : 0 < b) : 0 < a := by
  rcases Int.lt_trichotomy a 0 with h1 | h1 | h1
  · have := np h1 hb; omega
  · subst h1; omega
  · exact h1
theorem neg_l {a b : Int} (h : a * b < 0) (hb : 0 < b) : a < 0 := by
  rcases Int.lt_trichotomy a 0 with h1 | h1 | h1
  · exact h1
  · subst h1; omega
  · have := pp h1 hb; omega
theorem zero_l {a b : Int} (h : a * b = 0) (hb : 0 < b) : a = 0 := by
  rcases Int.mul_eq_zero.mp h with h | h
  · exact h
  · omega
theorem nonneg_l {a b : Int} (h : 0 ≤ a * b) (hb : 0 < b) : 0 ≤ a := by
  rcases Int.lt_or_le a 0 with h1 | h1
  · have := np h1 hb; omega
  · exact h1

/-- a level: a linear function of points -/
def lev (α β : Int) (p : Pt) : Int := α * (p.y : Int) + β * (p.x : Int)

theorem master (α β : Int) (p q a b z : Pt) :
    turn p q a * (lev α β b - lev α β z) + turn p q b * (lev α β z - lev α β a)
      = turn p q z * (lev α β b - lev α β a) - turn a b z * (lev α β q - lev α β p) := by
  simp only [turn, dx, dy, lev]; grind

theorem turn_cyc (p q r : Pt) : turn q r p = turn p q r := by simp only [turn, dx, dy]; grind
theorem turn_rev (p q r : Pt) : turn r q p = - turn p q r := by simp only [turn, dx, dy]; grind
theorem turn_swap (p q r : Pt) : turn q p r = - turn p q r := by simp only [turn, dx, dy]; grind
theorem turn_swap2 (p q r : Pt) : turn p r q = - turn p q r := by simp only [turn, dx, dy]; grind
theorem turn_self1 (p q : Pt) : turn p q p = 0 := by simp only [turn, dx, dy]; grind
theorem turn_self2 (p q : Pt) : turn p q q = 0 := by simp only [turn, dx, dy]; grind
theorem turn_self3 (p q : Pt) : turn p p q = 0 := by simp only [turn, dx, dy]; grind

theorem crosses_of {p q r s : Pt} (h1 : turn p q r * turn p q s < 0) (h2 : turn r s p * turn r s q < 0) : crosses p q r s = true := by
  simp [crosses, h1, h2]

/-- in a row, and strictly between by a level: on the line -/
theorem isOn_of {p q r : Pt} {α β : Int} (h : turn p q r = 0) (h1 : lev α β p ≤ lev α β r) (h2 : lev α β r ≤ lev α β q) (h3 : lev α β p < lev α β q) : isOn p q r = true := by
  have ex : ((r.x : Int) - p.x) * (lev α β q - lev α β p) = ((q.x : Int) - p.x) * (lev α β r - lev α β p) := by
    simp only [turn, dx, dy] at h
    simp only [lev]; grind
  have ey : ((r.y : Int) - p.y) * (lev α β q - lev α β p) = ((q.y : Int) - p.y) * (lev α β r - lev α β p) := by
    simp only [turn, dx, dy] at h
    simp only [lev]; grind
  have key : ∀ (u v a b : Int), 0 < b → 0 ≤ a → a ≤ b → u * b = v * a → (0 ≤ u ∧ u ≤ v) ∨ (v ≤ u ∧ u ≤ 0) := by
    intro u v a b hb ha hab e
    rcases Int.le_total 0 v with hv | hv
    · left
      have h1 := pp0 hv ha
      have h2 : v * a ≤ v * b := Int.mul_le_mul_of_nonneg_left hab hv
      refine ⟨nonneg_l (b := b) (by omega) hb, ?_⟩
      have : 0 ≤ (v - u) * b := by rw [Int.sub_mul]; omega
      have := nonneg_l this hb; omega
    · right
      have h1 : v * b ≤ v * a := Int.mul_le_mul_of_nonpos_left hv hab
      have h2 : v * a ≤ 0 := Int.mul_nonpos_of_nonpos_of_nonneg hv ha
      have a1 : 0 ≤ (u - v) * b := by rw [Int.sub_mul]; omega
      have a2 : 0 ≤ (-u) * b := by rw [Int.neg_mul]; omega
      have := nonneg_l a1 hb; have := nonneg_l a2 hb; omega
  have kx := key _ _ _ _ (by omega) (by omega) (by omega) ex
  have ky := key _ _ _ _ (by omega) (by omega) (by omega) ey
  simp only [isOn, h, between, beq_self_eq_true, Bool.true_and, Bool.and_eq_true, decide_eq_true_eq]
  omega

/-- **z right of p q and left of a b, at a common level, a from p on: a is right of p q**, or the lines cross, or a is on p q -/
theorem tee {α β : Int} {p q a b z : Pt} (hx : crosses p q a b = false)
    (hpa : lev α β p ≤ lev α β a) (hpz : lev α β p ≤ lev α β z) (hzq : lev α β z < lev α β q) (haz : lev α β a ≤ lev α β z) (hzb : lev α β z < lev α β b)
    (hz1 : turn p q z < 0) (hz2 : 0 < turn a b z) : turn p q a ≤ 0 := by
  refine Int.not_lt.mp fun hA => ?_
  have m1 := master α β p q a b z
  have s1 : turn p q z * (lev α β b - lev α β a) < 0 := np hz1 (by omega)
  have s2 : 0 < turn a b z * (lev α β q - lev α β p) := pp hz2 (by omega)
  have s3 : 0 < turn p q a * (lev α β b - lev α β z) := pp hA (by omega)
  have hgt : lev α β a < lev α β z := by
    rcases Int.lt_or_le (lev α β a) (lev α β z) with h | h
    · exact h
    · have e : lev α β z - lev α β a = 0 := by omega
      rw [e, Int.mul_zero] at m1; omega
  have hB : turn p q b < 0 := neg_l (b := lev α β z - lev α β a) (by omega) (by omega)
  -- a b of p, q
  have m2 := master α β a b p q z
  have m3 := master α β a b p q a
  rw [turn_self1, Int.zero_mul] at m3
  have s4 : 0 < turn p q a * (lev α β b - lev α β a) := pp hA (by omega)
  have ha1 : turn a b p < 0 := by
    rcases Int.lt_or_le (turn a b p) 0 with h | h
    · exact h
    · exfalso
      have t1 : turn a b p * (lev α β q - lev α β z) ≤ turn a b p * (lev α β q - lev α β a) := Int.mul_le_mul_of_nonneg_left (by omega) h
      have t2 : 0 ≤ turn a b p * (lev α β q - lev α β a) := pp0 h (by omega)
      have hbq : turn a b q < 0 := by
        rcases Int.lt_or_le (turn a b q) 0 with h' | h'
        · exact h'
        · have := pp0 h' (show 0 ≤ lev α β a - lev α β p by omega)
          grind
      have t3 : turn a b q * (lev α β z - lev α β p) ≤ turn a b q * (lev α β a - lev α β p) := Int.mul_le_mul_of_nonpos_left (by omega) (by omega)
      grind
  have hb1 : 0 < turn a b q := by
    have t1 : turn a b p * (lev α β q - lev α β z) < 0 := np ha1 (by omega)
    exact pos_l (b := lev α β z - lev α β p) (by omega) (by
      rcases Int.lt_or_le (lev α β p) (lev α β z) with h | h
      · omega
      · omega)
  have := crosses_of (pn hA hB) (np ha1 hb1)
  rw [hx] at this; exact Bool.noConfusion this


theorem weigh {a b w1 w2 v1 v2 : Int} (h1 : a * w1 + b * v1 < 0) (h2 : 0 < a * w2 + b * v2) (hw : w2 ≤ w1) (hv : v1 ≤ v2) (hw2 : 0 < w2) (hv1 : 0 < v1) : a < 0 ∧ 0 < b := by
  have ha : a < 0 := by
    refine Int.not_le.mp fun h => ?_
    have t1 : a * w2 ≤ a * w1 := Int.mul_le_mul_of_nonneg_left hw h
    have t2 := pp0 h (show 0 ≤ w1 by omega)
    have hb : b < 0 := by
      refine Int.not_le.mp fun h' => ?_
      have := pp0 h' (show 0 ≤ v1 by omega); omega
    have t3 : b * v2 ≤ b * v1 := Int.mul_le_mul_of_nonpos_left (by omega) hv
    omega
  have t1 := np ha hw2
  exact ⟨ha, pos_l (b := v2) (by omega) (by omega)⟩

/-- a b lies level-wise within p q: its ends are on one side -/
theorem same_side {α β : Int} {p q a b : Pt} (hx : crosses p q a b = false)
    (h1 : lev α β p < lev α β a) (h2 : lev α β a < lev α β b) (h3 : lev α β b < lev α β q) :
    ¬ (0 < turn p q a ∧ turn p q b < 0) ∧ ¬ (turn p q a < 0 ∧ 0 < turn p q b) := by
  have m1 := master α β a b p q a
  have m2 := master α β a b p q b
  rw [turn_self1, Int.zero_mul] at m1
  rw [turn_self2, Int.zero_mul] at m2
  constructor
  · rintro ⟨hA, hB⟩
    have s1 := pp hA (show 0 < lev α β b - lev α β a by omega)
    have s2 := np hB (show 0 < lev α β b - lev α β a by omega)
    obtain ⟨u, v⟩ := weigh (a := turn a b p) (b := turn a b q) (w1 := lev α β q - lev α β a) (w2 := lev α β q - lev α β b) (v1 := lev α β a - lev α β p) (v2 := lev α β b - lev α β p) (by omega) (by omega) (by omega) (by omega) (by omega) (by omega)
    rw [crosses_of (pn hA hB) (np u v)] at hx; exact Bool.noConfusion hx
  · rintro ⟨hA, hB⟩
    have s1 := np hA (show 0 < lev α β b - lev α β a by omega)
    have s2 := pp hB (show 0 < lev α β b - lev α β a by omega)
    obtain ⟨u, v⟩ := weigh (a := - turn a b p) (b := - turn a b q) (w1 := lev α β q - lev α β a) (w2 := lev α β q - lev α β b) (v1 := lev α β a - lev α β p) (v2 := lev α β b - lev α β p) (by rw [Int.neg_mul, Int.neg_mul]; omega) (by rw [Int.neg_mul, Int.neg_mul]; omega) (by omega) (by omega) (by omega) (by omega)
    rw [crosses_of (np hA hB) (pn (show 0 < turn a b p by omega) (show turn a b q < 0 by omega))] at hx; exact Bool.noConfusion hx

/-- a, p, b, q by level: p left of a b is b right of p q -/
theorem stagger {α β : Int} {p q a b : Pt} (hx : crosses p q a b = false)
    (h1 : lev α β a < lev α β p) (h2 : lev α β p < lev α β b) (h3 : lev α β b < lev α β q) :
    ¬ (0 < turn a b p ∧ 0 < turn p q b) ∧ ¬ (turn a b p < 0 ∧ turn p q b < 0) := by
  have m1 := master α β p q a b p
  have m2 := master α β a b p q b
  rw [turn_self1, Int.zero_mul] at m1
  rw [turn_self2, Int.zero_mul] at m2
  constructor
  · rintro ⟨hA, hB⟩
    have s1 := pp hA (show 0 < lev α β q - lev α β p by omega)
    have s2 := pp hB (show 0 < lev α β p - lev α β a by omega)
    have s3 := pp hB (show 0 < lev α β b - lev α β a by omega)
    have s4 := pp hA (show 0 < lev α β q - lev α β b by omega)
    have u : turn p q a < 0 := neg_l (b := lev α β b - lev α β p) (by omega) (by omega)
    have v : turn a b q < 0 := neg_l (b := lev α β b - lev α β p) (by omega) (by omega)
    rw [crosses_of (np u hB) (pn hA v)] at hx; exact Bool.noConfusion hx
  · rintro ⟨hA, hB⟩
    have s1 := np hA (show 0 < lev α β q - lev α β p by omega)
    have s2 := np hB (show 0 < lev α β p - lev α β a by omega)
    have s3 := np hB (show 0 < lev α β b - lev α β a by omega)
    have s4 := np hA (show 0 < lev α β q - lev α β b by omega)
    have u : 0 < turn p q a := pos_l (b := lev α β b - lev α β p) (by omega) (by omega)
    have v : 0 < turn a b q := pos_l (b := lev α β b - lev α β p) (by omega) (by omega)
    rw [crosses_of (pn u hB) (np hA v)] at hx; exact Bool.noConfusion hx

end Geo
end PGeo1

section PGeo2
open GlaPlan
namespace Geo

structure Good (S : Plan) : Prop where
  ord : ∀ i j, i < j → j < S.pts.length → (S.pt i).below (S.pt j) = true
  inw : ∀ i, i < S.pts.length → (S.pt i).x ≤ S.w
  lt : ∀ l ∈ S.lines, l.1 < l.2
  ub : ∀ l ∈ S.lines, l.2 < S.pts.length
  nd : S.lines.Nodup
  off : ∀ l ∈ S.lines, ∀ k, k < S.pts.length → k ≠ l.1 → k ≠ l.2 → isOn (S.pt l.1) (S.pt l.2) (S.pt k) = false
  nox : ∀ l ∈ S.lines, ∀ m ∈ S.lines, crosses (S.pt l.1) (S.pt l.2) (S.pt m.1) (S.pt m.2) = false

def hgt (S : Plan) (p : Pt) : Int := lev ((S.w : Int) + 1) 1 p
def hg (S : Plan) (i : Nat) : Int := hgt S (S.pt i)

theorem hg_lt {S : Plan} (G : Good S) {i j : Nat} (h : i < j) (hj : j < S.pts.length) : hg S i < hg S j := by
  have o := G.ord i j h hj
  have b1 := G.inw i (by omega)
  have b2 := G.inw j hj
  simp only [Pt.below, Bool.or_eq_true, Bool.and_eq_true, decide_eq_true_eq, beq_iff_eq] at o
  simp only [hg, hgt, lev]
  rcases o with o | ⟨o1, o2⟩
  · have : ((S.w : Int) + 1) * ((S.pt i).y + 1) ≤ ((S.w : Int) + 1) * (S.pt j).y := Int.mul_le_mul_of_nonneg_left (by omega) (by omega)
    rw [Int.mul_add] at this
    omega
  · rw [o1]; omega
theorem hg_le {S : Plan} (G : Good S) {i j : Nat} (h : i ≤ j) (hj : j < S.pts.length) : hg S i ≤ hg S j := by
  rcases Nat.lt_or_ge i j with h' | h'
  · exact Int.le_of_lt (hg_lt G h' hj)
  · have : i = j := by omega
    subst this; exact Int.le_refl _
theorem hg_y {S : Plan} (G : Good S) {i j : Nat} (h : i ≤ j) (hj : j < S.pts.length) : (S.pt i).y ≤ (S.pt j).y := by
  rcases Nat.lt_or_ge i j with h' | h'
  · have o := G.ord i j h' hj
    simp only [Pt.below, Bool.or_eq_true, Bool.and_eq_true, decide_eq_true_eq, beq_iff_eq] at o
    omega
  · have : i = j := by omega
    subst this; exact Nat.le_refl _

/-- the side of a point: above 0: left of the line (going up) -/
def side (S : Plan) (l : Nat × Nat) (v : Nat) : Int := turn (S.pt l.1) (S.pt l.2) (S.pt v)

theorem side_ne {S : Plan} (G : Good S) {l : Nat × Nat} (hl : l ∈ S.lines) {v : Nat} (h1 : l.1 < v) (h2 : v < l.2) : side S l v ≠ 0 := by
  intro e
  have := G.off l hl v (by have := G.ub l hl; omega) (by omega) (by omega)
  rw [isOn_of (α := (S.w : Int) + 1) (β := 1) e (Int.le_of_lt (hg_lt G h1 (by have := G.ub l hl; omega))) (Int.le_of_lt (hg_lt G h2 (G.ub l hl))) (hg_lt G (by omega) (G.ub l hl))] at this
  exact Bool.noConfusion this

/-- m is right of l (their levels overlap) -/
def Rt (S : Plan) (l m : Nat × Nat) : Bool :=
  if l.1 < m.1 then decide (side S l m.1 < 0) else if m.1 < l.1 then decide (0 < side S m l.1) else decide (side S l m.2 < 0)

theorem Rt_lo {S : Plan} {l m : Nat × Nat} (h : l.1 < m.1) : Rt S l m = decide (side S l m.1 < 0) := by simp [Rt, h]
theorem Rt_lo' {S : Plan} {l m : Nat × Nat} (h : l.1 < m.1) : Rt S m l = decide (0 < side S l m.1) := by
  have : ¬ m.1 < l.1 := by omega
  simp [Rt, h, this]
theorem Rt_hi {S : Plan} (G : Good S) {l m : Nat × Nat} (hl : l ∈ S.lines) (hm : m ∈ S.lines) (h1 : l.1 < m.2) (h2 : m.2 < l.2) : Rt S l m = decide (side S l m.2 < 0) := by
  have um := G.ub m hm
  have ul := G.ub l hl
  have lm := G.lt m hm
  have ll := G.lt l hl
  have n2 := side_ne G hl h1 h2
  rcases Nat.lt_trichotomy l.1 m.1 with h | h | h
  · rw [Rt_lo h]
    have n1 := side_ne G hl h (show m.1 < l.2 by omega)
    have s := same_side (α := (S.w : Int) + 1) (β := 1) (G.nox l hl m hm) (hg_lt G h (by omega)) (hg_lt G lm um) (hg_lt G h2 ul)
    change ¬ (0 < side S l m.1 ∧ side S l m.2 < 0) ∧ ¬ (side S l m.1 < 0 ∧ 0 < side S l m.2) at s
    rw [decide_eq_decide]; omega
  · simp [Rt, h]
  · rw [Rt_lo' h]
    have n1 := side_ne G hm h h1
    have s := stagger (α := (S.w : Int) + 1) (β := 1) (G.nox l hl m hm) (hg_lt G h (by omega)) (hg_lt G h1 um) (hg_lt G h2 ul)
    change ¬ (0 < side S m l.1 ∧ 0 < side S l m.2) ∧ ¬ (side S m l.1 < 0 ∧ side S l m.2 < 0) at s
    rw [decide_eq_decide]; omega
theorem Rt_hi' {S : Plan} (G : Good S) {l m : Nat × Nat} (hl : l ∈ S.lines) (hm : m ∈ S.lines) (h1 : l.1 < m.2) (h2 : m.2 < l.2) : Rt S m l = decide (0 < side S l m.2) := by
  have um := G.ub m hm
  have ul := G.ub l hl
  have lm := G.lt m hm
  have ll := G.lt l hl
  have n2 := side_ne G hl h1 h2
  rcases Nat.lt_trichotomy l.1 m.1 with h | h | h
  · rw [Rt_lo' h]
    have n1 := side_ne G hl h (show m.1 < l.2 by omega)
    have s := same_side (α := (S.w : Int) + 1) (β := 1) (G.nox l hl m hm) (hg_lt G h (by omega)) (hg_lt G lm um) (hg_lt G h2 ul)
    change ¬ (0 < side S l m.1 ∧ side S l m.2 < 0) ∧ ¬ (side S l m.1 < 0 ∧ 0 < side S l m.2) at s
    rw [decide_eq_decide]; omega
  · have e : side S m l.2 = - side S l m.2 := by simp only [side, h]; exact turn_swap2 _ _ _
    simp [Rt, h, e]
  · rw [Rt_lo h]
    have n1 := side_ne G hm h h1
    have s := stagger (α := (S.w : Int) + 1) (β := 1) (G.nox l hl m hm) (hg_lt G h (by omega)) (hg_lt G h1 um) (hg_lt G h2 ul)
    change ¬ (0 < side S m l.1 ∧ 0 < side S l m.2) ∧ ¬ (side S m l.1 < 0 ∧ side S l m.2 < 0) at s
    rw [decide_eq_decide]; omega
theorem Rt_self {S : Plan} (l : Nat × Nat) : Rt S l l = false := by simp [Rt, side, turn_self2]

/-! ## sums -/
def tot {α : Type} (f : α → Int) : List α → Int
  | [] => 0
  | x :: r => f x + tot f r
theorem tot_congr {α : Type} {f g : α → Int} : ∀ {l : List α}, (∀ x ∈ l, f x = g x) → tot f l = tot g l
  | [], _ => rfl
  | x :: r, h => by rw [tot, tot, h x (by simp), tot_congr (l := r) (fun y hy => h y (by simp [hy]))]
theorem tot_add {α : Type} (f g : α → Int) : ∀ (l : List α), tot (fun x => f x + g x) l = tot f l + tot g l
  | [] => rfl
  | x :: r => by rw [tot, tot, tot, tot_add f g r]; omega
theorem tot_sub {α : Type} (f g : α → Int) : ∀ (l : List α), tot (fun x => f x - g x) l = tot f l - tot g l
  | [] => rfl
  | x :: r => by rw [tot, tot, tot, tot_sub f g r]; omega
theorem tot_neg {α : Type} (f : α → Int) : ∀ (l : List α), tot (fun x => - f x) l = - tot f l
  | [] => rfl
  | x :: r => by rw [tot, tot, tot_neg f r]; omega
theorem tot_zero {α : Type} : ∀ (l : List α), tot (fun _ => 0) l = 0
  | [] => rfl
  | x :: r => by rw [tot, tot_zero r]; rfl
theorem tot_if {α : Type} (p : Bool) (f : α → Int) (l : List α) : tot (fun x => if p = true then f x else 0) l = if p = true then tot f l else 0 := by
  cases p
  · simp [tot_zero]
  · simp
/-- one item's share -/
theorem tot_one {α : Type} [DecidableEq α] (f : α → Int) : ∀ {l : List α}, l.Nodup → ∀ {a : α}, a ∈ l → tot (fun x => if x = a then f x else 0) l = f a
  | [], _, a, h => absurd h (by simp)
  | x :: r, nd, a, h => by
    rw [tot]
    rw [List.nodup_cons] at nd
    by_cases e : x = a
    · subst e
      rw [if_pos rfl, tot_congr (g := fun _ => 0), tot_zero]; · omega
      intro y hy; rw [if_neg]; intro e; exact nd.1 (e ▸ hy)
    · rw [if_neg e, tot_one f nd.2 (by simpa [Ne.symm e] using h)]; omega
theorem tot_append {α : Type} (f : α → Int) : ∀ (l m : List α), tot f (l ++ m) = tot f l + tot f m
  | [], m => by simp [tot]
  | x :: r, m => by rw [List.cons_append, tot, tot, tot_append f r m]; omega

/-! ## circulations -/
/-- how often a line is gone up, less how often down -/
def ups (c : Nat → Nat → Int) (l : Nat × Nat) : Int := c l.1 l.2 - c l.2 l.1
/-- as much goes out of every point as comes to it -/
def Circ (S : Plan) (c : Nat → Nat → Int) : Prop := ∀ v, tot (fun m => (if m.1 = v then ups c m else 0) - (if m.2 = v then ups c m else 0)) S.lines = 0

/-- what is gone up strictly right of l, at the level behind point k -/
def Wr (S : Plan) (c : Nat → Nat → Int) (l : Nat × Nat) (k : Nat) : Int := tot (fun m => if m.1 ≤ k ∧ k < m.2 ∧ Rt S l m = true then ups c m else 0) S.lines

theorem Wr_step {S : Plan} (G : Good S) {c : Nat → Nat → Int} (C : Circ S c) {l : Nat × Nat} (hl : l ∈ S.lines) {k : Nat} (h1 : l.1 ≤ k) (h2 : k + 1 < l.2) : Wr S c l k = Wr S c l (k + 1) := by
  have key : Wr S c l (k+1) - Wr S c l k = 0 := by
    rw [Wr, Wr, ← tot_sub]
    have e := tot_if (decide (side S l (k + 1) < 0)) (fun m => (if m.1 = k + 1 then ups c m else 0) - (if m.2 = k + 1 then ups c m else 0)) S.lines
    rw [C (k + 1)] at e
    rw [ite_self] at e
    refine Eq.trans (tot_congr ?_) e
    intro m hm
    have lm := G.lt m hm
    by_cases a1 : m.1 = k + 1
    · have := Rt_lo (S := S) (l := l) (m := m) (by omega)
      rw [a1] at this
      rw [this, if_neg (show ¬ (m.1 ≤ k ∧ k < m.2 ∧ decide (side S l (k + 1) < 0) = true) by omega), if_pos a1, if_neg (show ¬ m.2 = k + 1 by omega)]
      by_cases b : decide (side S l (k + 1) < 0) = true
      · rw [if_pos ⟨by omega, by omega, b⟩, if_pos b]
      · rw [if_neg (fun h => b h.2.2), if_neg b]; omega
    · by_cases a2 : m.2 = k + 1
      · have := Rt_hi G hl hm (by omega) (by omega)
        rw [a2] at this
        rw [this, if_neg (show ¬ (m.1 ≤ k + 1 ∧ k + 1 < m.2 ∧ decide (side S l (k + 1) < 0) = true) by omega), if_neg a1, if_pos a2]
        by_cases b : decide (side S l (k + 1) < 0) = true
        · rw [if_pos ⟨by omega, by omega, b⟩, if_pos b]
        · rw [if_neg (fun h => b h.2.2), if_neg b]; omega
      · rw [if_neg a1, if_neg a2, Int.sub_self, ite_self]
        by_cases b : m.1 ≤ k ∧ k < m.2 ∧ Rt S l m = true
        · rw [if_pos b, if_pos ⟨by omega, by omega, b.2.2⟩]; omega
        · rw [if_neg b, if_neg]; · omega
          rintro ⟨x, y, z⟩; exact b ⟨by omega, by omega, z⟩
  omega

theorem Wr_const {S : Plan} (G : Good S) {c : Nat → Nat → Int} (C : Circ S c) {l : Nat × Nat} (hl : l ∈ S.lines) : ∀ (k : Nat), l.1 ≤ k → k < l.2 → Wr S c l k = Wr S c l l.1
  | 0, h1, _ => by rw [show l.1 = 0 by omega]
  | k + 1, h1, h2 => by
    rcases Nat.lt_or_ge k l.1 with h | h
    · rw [show l.1 = k + 1 by omega]
    · rw [← Wr_step G C hl h h2]; exact Wr_const G C hl k h (by omega)

/-- v left of lines that pass it -/
def Bs (S : Plan) (c : Nat → Nat → Int) (v : Nat) : Int := tot (fun m => if m.1 < v ∧ v < m.2 ∧ 0 < side S m v then ups c m else 0) S.lines

theorem corner_up {S : Plan} (G : Good S) {c : Nat → Nat → Int} {l : Nat × Nat} :
    Wr S c l l.1 = Bs S c l.1 + tot (fun m => if m.1 = l.1 ∧ Rt S l m = true then ups c m else 0) S.lines := by
  rw [Wr, Bs, ← tot_add]
  refine tot_congr fun m hm => ?_
  have lm := G.lt m hm
  by_cases a : m.1 = l.1
  · rw [if_neg (show ¬ (m.1 < l.1 ∧ l.1 < m.2 ∧ 0 < side S m l.1) by omega)]
    by_cases b : Rt S l m = true
    · rw [if_pos ⟨by omega, by omega, b⟩, if_pos ⟨a, b⟩]; omega
    · rw [if_neg (fun h => b h.2.2), if_neg (fun h => b h.2)]; omega
  · rw [if_neg (show ¬ (m.1 = l.1 ∧ Rt S l m = true) from fun h => a h.1)]
    by_cases b : m.1 < l.1 ∧ l.1 < m.2
    · have := Rt_lo' (S := S) b.1
      rw [this]
      by_cases d : 0 < side S m l.1
      · rw [if_pos ⟨by omega, by omega, by simpa using d⟩, if_pos ⟨by omega, by omega, d⟩]; omega
      · rw [if_neg (fun h => d (by simpa using h.2.2)), if_neg (fun h => d h.2.2)]; omega
    · rw [if_neg (fun h => b ⟨by omega, by omega⟩), if_neg (fun h => b ⟨by omega, by omega⟩)]; omega

theorem corner_dn {S : Plan} (G : Good S) {c : Nat → Nat → Int} (C : Circ S c) {l : Nat × Nat} (hl : l ∈ S.lines) :
    Wr S c l l.1 = Bs S c l.2 + tot (fun m => if m.2 = l.2 ∧ Rt S l m = true then ups c m else 0) S.lines := by
  have ll := G.lt l hl
  rw [← Wr_const G C hl (l.2 - 1) (by omega) (by omega), Wr, Bs, ← tot_add]
  refine tot_congr fun m hm => ?_
  have lm := G.lt m hm
  by_cases a : m.2 = l.2
  · rw [if_neg (show ¬ (m.1 < l.2 ∧ l.2 < m.2 ∧ 0 < side S m l.2) by omega)]
    by_cases b : Rt S l m = true
    · rw [if_pos ⟨by omega, by omega, b⟩, if_pos ⟨a, b⟩]; omega
    · rw [if_neg (fun h => b h.2.2), if_neg (fun h => b h.2)]; omega
  · rw [if_neg (show ¬ (m.2 = l.2 ∧ Rt S l m = true) from fun h => a h.1)]
    by_cases b : m.1 < l.2 ∧ l.2 < m.2
    · have := Rt_hi' G hm hl b.1 b.2
      rw [this]
      by_cases d : 0 < side S m l.2
      · rw [if_pos ⟨by omega, by omega, by simpa using d⟩, if_pos ⟨by omega, by omega, d⟩]; omega
      · rw [if_neg (fun h => d (by simpa using h.2.2)), if_neg (fun h => d h.2.2)]; omega
    · rw [if_neg (fun h => b ⟨by omega, by omega⟩), if_neg (fun h => b ⟨by omega, by omega⟩)]; omega

end Geo
end PGeo2

section PGeo3
open GlaPlan
namespace Geo

def cr (a b : Int × Int) : Int := a.1 * b.2 - a.2 * b.1
def hv (S : Plan) (d : Int × Int) : Int := ((S.w : Int) + 1) * d.2 + d.1
/-- from the west on clockwise -/
def Pc (S : Plan) (a b : Int × Int) : Prop := (0 < hv S a ∧ hv S b < 0) ∨ (((0 < hv S a ∧ 0 < hv S b) ∨ (hv S a < 0 ∧ hv S b < 0)) ∧ cr a b < 0)

theorem sgn (a b : Int) : (0 < a → 0 < b → 0 < a * b) ∧ (0 < a → b < 0 → a * b < 0) ∧ (a < 0 → 0 < b → a * b < 0) ∧ (a < 0 → b < 0 → 0 < a * b) ∧ (a = 0 → a * b = 0) :=
  ⟨pp, pn, np, nn, fun h => by rw [h, Int.zero_mul]⟩

theorem half_of (S : Plan) {u a : Int × Int} (hu : hv S u ≠ 0) (n : cr u a = 0 → (0 < hv S u ∧ hv S a < 0) ∨ (hv S u < 0 ∧ 0 < hv S a)) :
    (cr u a < 0 ∧ half u a = 0) ∨ (cr u a = 0 ∧ half u a = 1) ∨ (0 < cr u a ∧ half u a = 2) := by
  have e : half u a = if cr u a < 0 then 0 else if 0 < cr u a then 2 else if u.1 * a.1 + u.2 * a.2 < 0 then 1 else 3 := rfl
  rcases Int.lt_trichotomy (cr u a) 0 with h | h | h
  · left; rw [e, if_pos h]; exact ⟨h, rfl⟩
  · right; left
    refine ⟨h, ?_⟩
    rw [e, if_neg (by omega), if_neg (by omega), if_pos]
    have d : (u.1 * a.1 + u.2 * a.2) * (hv S u) = (u.1 * u.1 + u.2 * u.2) * hv S a := by
      simp only [cr, hv] at h ⊢; grind
    have d2 : 0 < u.1 * u.1 + u.2 * u.2 := by
      have s1 := sgn u.1 u.1
      have s2 := sgn u.2 u.2
      have : u.1 ≠ 0 ∨ u.2 ≠ 0 := by
        refine Classical.byContradiction fun hh => ?_
        have h1 : u.1 = 0 := by omega
        have h2 : u.2 = 0 := by omega
        apply hu; rw [hv, h1, h2]; simp
      omega
    rcases n h with ⟨n1, n2⟩ | ⟨n1, n2⟩
    · have := pn d2 n2
      exact neg_l (b := hv S u) (by omega) n1
    · have := pp d2 n2
      have := sgn (u.1 * a.1 + u.2 * a.2) (hv S u)
      omega
  · right; right; rw [e, if_neg (by omega), if_pos h]; exact ⟨h, rfl⟩

theorem cr_self (a : Int × Int) : cr a a = 0 := by simp only [cr]; grind
theorem cr_anti (a b : Int × Int) : cr b a = - cr a b := by simp only [cr]; grind
theorem cr_three (S : Plan) (u a b : Int × Int) : cr u a * hv S b + cr a b * hv S u = cr u b * hv S a := by simp only [cr, hv]; grind

set_option maxHeartbeats 4000000 in
theorem cyc_of (S : Plan) {u a b : Int × Int} (hu : hv S u ≠ 0) (ha : hv S a ≠ 0) (hb : hv S b ≠ 0)
    (n1 : cr u a = 0 → (0 < hv S u ∧ hv S a < 0) ∨ (hv S u < 0 ∧ 0 < hv S a))
    (n2 : cr u b = 0 → (0 < hv S u ∧ hv S b < 0) ∨ (hv S u < 0 ∧ 0 < hv S b))
    (n3 : cr a b = 0 → (0 < hv S a ∧ hv S b < 0) ∨ (hv S a < 0 ∧ 0 < hv S b)) :
    sooner u a b = true ↔ (Pc S u a ∧ Pc S a b) ∨ (Pc S a b ∧ Pc S b u) ∨ (Pc S b u ∧ Pc S u a) := by
  have k1 := half_of S hu n1
  have k2 := half_of S hu n2
  have i := cr_three S u a b
  have e1 := cr_anti u b
  have es : sooner u a b = true ↔ (half u a < half u b ∨ (half u a = half u b ∧ cr a b < 0)) := by
    simp only [sooner, Bool.or_eq_true, Bool.and_eq_true, decide_eq_true_eq, beq_iff_eq, cr]
  rw [es]
  simp only [Pc, e1]
  generalize half u a = A at *
  generalize half u b = B at *
  generalize cr u a = p at *
  generalize cr u b = q at *
  generalize cr a b = t at *
  generalize hv S u = h1 at *
  generalize hv S a = h2 at *
  generalize hv S b = h3 at *
  clear es e1
  rcases Int.lt_or_gt_of_ne hu with g1 | g1 <;> rcases Int.lt_or_gt_of_ne ha with g2 | g2 <;> rcases Int.lt_or_gt_of_ne hb with g3 | g3 <;>
    rcases k1 with ⟨k1, l1⟩ | ⟨k1, l1⟩ | ⟨k1, l1⟩ <;> rcases k2 with ⟨k2, l2⟩ | ⟨k2, l2⟩ | ⟨k2, l2⟩ <;>
    subst l1 l2 <;>
    (first | have y1 := pp k1 g3 | have y1 := pn k1 g3 | have y1 := np k1 g3 | have y1 := nn k1 g3 | have y1 : p * h3 = 0 := by rw [k1, Int.zero_mul]) <;>
    (first | have y3 := pp k2 g2 | have y3 := pn k2 g2 | have y3 := np k2 g2 | have y3 := nn k2 g2 | have y3 : q * h2 = 0 := by rw [k2, Int.zero_mul]) <;>
    rcases Int.lt_trichotomy t 0 with k3 | k3 | k3 <;>
    (first | have y2 := pp k3 g1 | have y2 := pn k3 g1 | have y2 := np k3 g1 | have y2 := nn k3 g1 | have y2 : t * h1 = 0 := by rw [k3, Int.zero_mul]) <;>
    (first | (exfalso; omega) | omega)

end Geo
end PGeo3

section PGeo4
open GlaPlan
namespace Geo

def ln (v y : Nat) : Nat × Nat := if v < y then (v, y) else (y, v)
theorem ln_lt {v y : Nat} (h : v < y) : ln v y = (v, y) := by simp [ln, h]
theorem ln_gt {v y : Nat} (h : y < v) : ln v y = (y, v) := by simp [ln, Nat.not_lt.mpr (Nat.le_of_lt h)]
theorem ln_comm (v y : Nat) : ln v y = ln y v := by
  rcases Nat.lt_trichotomy v y with h | h | h
  · rw [ln_lt h, ln_gt h]
  · rw [h]
  · rw [ln_lt h, ln_gt h]

theorem mem_near {S : Plan} (G : Good S) {v y : Nat} : y ∈ S.near v ↔ ln v y ∈ S.lines := by
  rw [Plan.near, List.mem_filterMap]
  constructor
  · rintro ⟨l, hl, e⟩
    have := G.lt l hl
    by_cases h : l.1 = v
    · rw [if_pos h] at e
      obtain rfl := Option.some.inj e
      rw [ln_lt (by omega), ← h]; exact hl
    · rw [if_neg h] at e
      by_cases h' : l.2 = v
      · rw [if_pos h'] at e
        obtain rfl := Option.some.inj e
        rw [ln_gt (by omega), ← h']; exact hl
      · rw [if_neg h'] at e; exact nomatch e
  · intro h
    have := G.lt _ h
    refine ⟨_, h, ?_⟩
    rcases Nat.lt_trichotomy v y with g | g | g
    · rw [ln_lt g]; simp
    · subst g; simp [ln] at this
    · rw [ln_gt g]
      simp [Nat.ne_of_lt g]
theorem near_symm {S : Plan} (G : Good S) {v y : Nat} : y ∈ S.near v ↔ v ∈ S.near y := by
  rw [mem_near G, mem_near G, ln_comm]
theorem near_ne {S : Plan} (G : Good S) {v y : Nat} (h : y ∈ S.near v) : y ≠ v := by
  rintro rfl
  have := G.lt _ ((mem_near G).1 h)
  simp [ln] at this
theorem near_ub {S : Plan} (G : Good S) {v y : Nat} (h : y ∈ S.near v) : y < S.pts.length ∧ v < S.pts.length := by
  have h := (mem_near G).1 h
  have a := G.lt _ h
  have b := G.ub _ h
  rcases Nat.lt_or_ge v y with g | g
  · rw [ln_lt g] at a b; omega
  · have : y < v := by
      rcases Nat.lt_or_ge y v with g' | g'
      · exact g'
      · rw [show y = v by omega] at a; simp [ln] at a
    rw [ln_gt this] at a b; omega

theorem hv_dir (S : Plan) (v y : Nat) : hv S (dir S v y) = hg S y - hg S v := by
  simp only [hv, dir, hg, hgt, lev, dx, dy]; grind
theorem hv_pos {S : Plan} (G : Good S) {v y : Nat} (h : y ∈ S.near v) : 0 < hv S (dir S v y) ↔ v < y := by
  have u := near_ub G h
  have n := near_ne G h
  rw [hv_dir]
  constructor
  · intro h1
    rcases Nat.lt_or_ge v y with g | g
    · exact g
    · have := hg_lt G (show y < v by omega) u.2; omega
  · intro h1
    have := hg_lt G h1 u.1; omega
theorem hv_neg {S : Plan} (G : Good S) {v y : Nat} (h : y ∈ S.near v) : hv S (dir S v y) < 0 ↔ y < v := by
  have u := near_ub G h
  have n := near_ne G h
  rw [hv_dir]
  constructor
  · intro h1
    rcases Nat.lt_or_ge y v with g | g
    · exact g
    · have := hg_lt G (show v < y by omega) u.1; omega
  · intro h1
    have := hg_lt G h1 u.2; omega
theorem hv_ne {S : Plan} (G : Good S) {v y : Nat} (h : y ∈ S.near v) : hv S (dir S v y) ≠ 0 := by
  have := hv_pos G h
  have := hv_neg G h
  have := near_ne G h
  omega

theorem cr_turn (S : Plan) (v a b : Nat) : cr (dir S v a) (dir S v b) = turn (S.pt v) (S.pt a) (S.pt b) := by
  simp only [cr, dir, turn, dx, dy]; grind

theorem cr_ne {S : Plan} (G : Good S) {v a b : Nat} (ha : a ∈ S.near v) (hb : b ∈ S.near v) (hab : a ≠ b) (h : cr (dir S v a) (dir S v b) = 0) :
    (0 < hv S (dir S v a) ∧ hv S (dir S v b) < 0) ∨ (hv S (dir S v a) < 0 ∧ 0 < hv S (dir S v b)) := by
  have na := near_ne G ha
  have nb := near_ne G hb
  have la := (mem_near G).1 ha
  have lb := (mem_near G).1 hb
  rw [hv_pos G ha, hv_neg G ha, hv_pos G hb, hv_neg G hb]
  refine Classical.byContradiction fun hh => ?_
  rw [cr_turn] at h
  have h2 : turn (S.pt v) (S.pt b) (S.pt a) = 0 := by rw [turn_swap2, h]; rfl
  have h3 : turn (S.pt a) (S.pt v) (S.pt b) = 0 := by rw [turn_swap, h]; rfl
  have h4 : turn (S.pt b) (S.pt v) (S.pt a) = 0 := by rw [turn_swap, h2]; rfl
  rcases Nat.lt_or_ge v a with g | g
  · have gb : v < b := by omega
    rw [ln_lt g] at la
    rw [ln_lt gb] at lb
    rcases Nat.lt_or_ge a b with k | k
    · exact side_ne G lb g k h2
    · exact side_ne G la gb (show b < a by omega) h
  · have ga : a < v := by omega
    have gb : b < v := by omega
    rw [ln_gt ga] at la
    rw [ln_gt gb] at lb
    rcases Nat.lt_or_ge a b with k | k
    · exact side_ne G la k gb h3
    · exact side_ne G lb (show b < a by omega) ga h4

/-- clockwise from the west, of points joined with v -/
def pc (S : Plan) (v a b : Nat) : Bool := (decide (v < a) && decide (b < v)) || (((decide (v < a) && decide (v < b)) || (decide (a < v) && decide (b < v))) && decide (cr (dir S v a) (dir S v b) < 0))
theorem pc_iff {S : Plan} (G : Good S) {v a b : Nat} (ha : a ∈ S.near v) (hb : b ∈ S.near v) : pc S v a b = true ↔ Pc S (dir S v a) (dir S v b) := by
  simp only [pc, Pc, Bool.or_eq_true, Bool.and_eq_true, decide_eq_true_eq, hv_pos G ha, hv_pos G hb, hv_neg G ha, hv_neg G hb]
theorem pc_irr (S : Plan) (v a : Nat) : pc S v a a = false := by
  simp only [pc, cr_self]
  simp; omega
theorem pc_total {S : Plan} (G : Good S) {v a b : Nat} (ha : a ∈ S.near v) (hb : b ∈ S.near v) (n : a ≠ b) : pc S v a b = true ∨ pc S v b a = true := by
  have na := near_ne G ha
  have nb := near_ne G hb
  have z := cr_ne G ha hb n
  rw [hv_pos G ha, hv_neg G ha, hv_pos G hb, hv_neg G hb] at z
  have e := cr_anti (dir S v a) (dir S v b)
  simp only [pc, Bool.or_eq_true, Bool.and_eq_true, decide_eq_true_eq]
  omega
theorem Pc_trans (S : Plan) {a b c : Int × Int} (h1 : Pc S a b) (h2 : Pc S b c) : Pc S a c := by
  have i := cr_three S a b c
  simp only [Pc] at h1 h2 ⊢
  rcases h1 with ⟨h1, h1'⟩ | ⟨⟨h1, h1'⟩ | ⟨h1, h1'⟩, h1''⟩ <;> rcases h2 with ⟨h2, h2'⟩ | ⟨⟨h2, h2'⟩ | ⟨h2, h2'⟩, h2''⟩ <;> try omega
  · have x := np h1'' h2'
    have y := np h2'' h1
    exact .inr ⟨.inl ⟨h1, h2'⟩, neg_l (b := hv S b) (by omega) h2⟩
  · have x := nn h1'' h2'
    have y := nn h2'' h1
    refine .inr ⟨.inr ⟨h1, h2'⟩, ?_⟩
    have := pos_l (a := - cr a c) (b := - hv S b) (by rw [Int.neg_mul_neg]; omega) (by omega)
    omega
theorem pc_trans {S : Plan} (G : Good S) {v a b c : Nat} (ha : a ∈ S.near v) (hb : b ∈ S.near v) (hc : c ∈ S.near v) (h1 : pc S v a b = true) (h2 : pc S v b c = true) : pc S v a c = true := by
  rw [pc_iff G ha hb] at h1
  rw [pc_iff G hb hc] at h2
  rw [pc_iff G ha hc]
  exact Pc_trans S h1 h2

/-- how many come before -/
def rk (S : Plan) (v a : Nat) : Nat := (S.near v).countP fun y => pc S v y a

theorem countP_lt {α : Type} {p q : α → Bool} : ∀ {l : List α}, (∀ x ∈ l, p x = true → q x = true) → ∀ {a : α}, a ∈ l → p a = false → q a = true → l.countP p < l.countP q
  | [], _, a, h, _, _ => absurd h (by simp)
  | x :: r, hs, a, h, h1, h2 => by
    rw [List.countP_cons, List.countP_cons]
    have hr : r.countP p ≤ r.countP q := List.countP_mono_left (fun y hy => hs y (by simp [hy]))
    rcases List.mem_cons.1 h with e | e
    · subst e; simp [h1, h2]; omega
    · have := countP_lt (l := r) (fun y hy => hs y (by simp [hy])) e h1 h2
      have hx := hs x (by simp)
      cases e1 : p x <;> cases e2 : q x <;> simp_all <;> omega

theorem rk_lt {S : Plan} (G : Good S) {v a b : Nat} (ha : a ∈ S.near v) (hb : b ∈ S.near v) : pc S v a b = true ↔ rk S v a < rk S v b := by
  have one : ∀ {a b : Nat}, a ∈ S.near v → b ∈ S.near v → pc S v a b = true → rk S v a < rk S v b := by
    intro a b ha hb h
    exact countP_lt (fun y hy hya => pc_trans G hy ha hb hya h) ha (pc_irr S v a) h
  constructor
  · exact one ha hb
  · intro h
    by_cases e : a = b
    · subst e; omega
    · rcases pc_total G ha hb e with h' | h'
      · exact h'
      · have := one hb ha h'; omega
theorem rk_inj {S : Plan} (G : Good S) {v a b : Nat} (ha : a ∈ S.near v) (hb : b ∈ S.near v) (e : rk S v a = rk S v b) : a = b := by
  refine Classical.byContradiction fun n => ?_
  have h1 := rk_lt G ha hb
  have h2 := rk_lt G hb ha
  rcases pc_total G ha hb n with h | h
  · have := h1.1 h; omega
  · have := h2.1 h; omega
theorem rk_cls {S : Plan} (G : Good S) {v a b : Nat} (ha : a ∈ S.near v) (hb : b ∈ S.near v) (h1 : v < a) (h2 : b < v) : rk S v a < rk S v b := by
  rw [← rk_lt G ha hb]; simp [pc, h1, h2]

theorem sooner_rk {S : Plan} (G : Good S) {v u a b : Nat} (hu : u ∈ S.near v) (ha : a ∈ S.near v) (hb : b ∈ S.near v) :
    sooner (dir S v u) (dir S v a) (dir S v b) = true ↔ a ≠ u ∧ (b = u ∨ (rk S v u < rk S v a ∧ rk S v a < rk S v b) ∨ (rk S v a < rk S v b ∧ rk S v b < rk S v u) ∨ (rk S v b < rk S v u ∧ rk S v u < rk S v a)) := by
  have huu : half (dir S v u) (dir S v u) = 3 := by
    have e : half (dir S v u) (dir S v u) = if cr (dir S v u) (dir S v u) < 0 then 0 else if 0 < cr (dir S v u) (dir S v u) then 2 else if (dir S v u).1 * (dir S v u).1 + (dir S v u).2 * (dir S v u).2 < 0 then 1 else 3 := rfl
    rw [e, cr_self, if_neg (by omega), if_neg (by omega), if_neg]
    have s1 := sgn (dir S v u).1 (dir S v u).1
    have s2 := sgn (dir S v u).2 (dir S v u).2
    omega
  have hx : ∀ {x : Nat}, x ∈ S.near v → x ≠ u → half (dir S v u) (dir S v x) ≤ 2 := by
    intro x hx n
    have := half_of S (hv_ne G hu) (cr_ne G hu hx (Ne.symm n))
    omega
  have es : ∀ a b : Nat, sooner (dir S v u) (dir S v a) (dir S v b) = true ↔ (half (dir S v u) (dir S v a) < half (dir S v u) (dir S v b) ∨ (half (dir S v u) (dir S v a) = half (dir S v u) (dir S v b) ∧ cr (dir S v a) (dir S v b) < 0)) := by
    intro a b
    simp only [sooner, Bool.or_eq_true, Bool.and_eq_true, decide_eq_true_eq, beq_iff_eq, cr]
  by_cases e1 : a = u
  · subst e1
    rw [es, huu]
    by_cases e2 : b = a
    · subst e2; rw [huu, cr_self]; omega
    · have := hx hb e2; omega
  · by_cases e2 : b = u
    · subst e2
      rw [es, huu]
      have := hx ha e1; omega
    · by_cases e3 : a = b
      · subst e3
        rw [es, cr_self]; omega
      · rw [cyc_of S (hv_ne G hu) (hv_ne G ha) (hv_ne G hb) (cr_ne G hu ha (Ne.symm e1)) (cr_ne G hu hb (Ne.symm e2)) (cr_ne G ha hb e3)]
        rw [← pc_iff G hu ha, ← pc_iff G ha hb, ← pc_iff G hb hu, rk_lt G hu ha, rk_lt G ha hb, rk_lt G hb hu]
        omega

theorem fold_min {α : Type} (R : α → α → Bool) (M : α → Prop) (tr : ∀ a b c, M a → M b → M c → R a b = true → R b c = true → R a c = true)
    (to : ∀ a b, M a → M b → a ≠ b → R a b = true ∨ R b a = true) : ∀ (r : List α) (k : α), M k → (∀ x ∈ r, M x) →
    M (r.foldl (fun a b => if R b a = true then b else a) k) ∧ (r.foldl (fun a b => if R b a = true then b else a) k) ∈ k :: r ∧
    ∀ y ∈ k :: r, y ≠ r.foldl (fun a b => if R b a = true then b else a) k → R (r.foldl (fun a b => if R b a = true then b else a) k) y = true
  | [], k, hk, _ => ⟨hk, by simp, fun y hy n => absurd (by simpa using hy) n⟩
  | x :: r, k, hk, hr => by
    rw [List.foldl_cons]
    have hx := hr x (by simp)
    by_cases h : R x k = true
    · rw [if_pos h]
      obtain ⟨i1, i2, i3⟩ := fold_min R M tr to r x hx (fun y hy => hr y (by simp [hy]))
      refine ⟨i1, List.mem_cons_of_mem _ i2, ?_⟩
      intro y hy n
      rcases List.mem_cons.1 hy with e | e
      · subst e
        by_cases f : x = r.foldl (fun a b => if R b a = true then b else a) x
        · rw [← f]; exact h
        · exact tr _ _ _ i1 hx hk (i3 x (by simp) f) h
      · exact i3 y e n
    · rw [if_neg h]
      obtain ⟨i1, i2, i3⟩ := fold_min R M tr to r k hk (fun y hy => hr y (by simp [hy]))
      refine ⟨i1, ?_, ?_⟩
      · rcases List.mem_cons.1 i2 with e | e
        · rw [e]; simp
        · simp [e]
      · intro y hy n
        rcases List.mem_cons.1 hy with e | e
        · exact i3 y (by simp [e]) n
        · rcases List.mem_cons.1 e with e | e
          · subst e
            by_cases f : k = r.foldl (fun a b => if R b a = true then b else a) k
            · rw [← f] at n ⊢
              rcases to k y hk hx (Ne.symm n) with h' | h'
              · exact h'
              · exact absurd h' h
            · have a1 := i3 k (by simp) f
              by_cases g : k = y
              · rw [← g]; exact a1
              · rcases to k y hk hx g with h' | h'
                · exact tr _ _ _ i1 hk hx a1 h'
                · exact absurd h' h
          · exact i3 y (by simp [e]) n

theorem next_min {S : Plan} (G : Good S) {v u : Nat} (hu : u ∈ S.near v) :
    S.next u v ∈ S.near v ∧ ∀ y ∈ S.near v, y ≠ S.next u v → sooner (dir S v u) (dir S v (S.next u v)) (dir S v y) = true := by
  have tr : ∀ a b c, a ∈ S.near v → b ∈ S.near v → c ∈ S.near v → sooner (dir S v u) (dir S v a) (dir S v b) = true → sooner (dir S v u) (dir S v b) (dir S v c) = true → sooner (dir S v u) (dir S v a) (dir S v c) = true := by
    intro a b c ha hb hc
    rw [sooner_rk G hu ha hb, sooner_rk G hu hb hc, sooner_rk G hu ha hc]
    rintro ⟨h1, h2⟩ ⟨h3, h4⟩
    refine ⟨h1, ?_⟩
    rcases h2 with h2 | h2
    · exact absurd h2 h3
    · rcases h4 with h4 | h4
      · exact .inl h4
      · right; omega
  have to : ∀ a b, a ∈ S.near v → b ∈ S.near v → a ≠ b → sooner (dir S v u) (dir S v a) (dir S v b) = true ∨ sooner (dir S v u) (dir S v b) (dir S v a) = true := by
    intro a b ha hb n
    rw [sooner_rk G hu ha hb, sooner_rk G hu hb ha]
    by_cases e1 : a = u
    · right; exact ⟨fun e => n (e1.trans e.symm), .inl e1⟩
    · by_cases e2 : b = u
      · left; exact ⟨e1, .inl e2⟩
      · have x1 : rk S v a ≠ rk S v b := fun e => n (rk_inj G ha hb e)
        have x2 : rk S v a ≠ rk S v u := fun e => e1 (rk_inj G ha hu e)
        have x3 : rk S v b ≠ rk S v u := fun e => e2 (rk_inj G hb hu e)
        simp only [e1, e2, ne_eq, not_false_eq_true, true_and, false_or]
        omega
  rw [Plan.next]
  cases e : S.near v with
  | nil => rw [e] at hu; exact absurd hu (by simp)
  | cons k r =>
    have hk : k ∈ S.near v := by rw [e]; simp
    have hr : ∀ x ∈ r, x ∈ S.near v := fun x hx => by rw [e]; simp [hx]
    have f := fold_min (fun b a => sooner (dir S v u) (dir S v b) (dir S v a)) (fun x => x ∈ S.near v) tr to r k hk hr
    exact ⟨f.2.1, f.2.2⟩

theorem next_rk {S : Plan} (G : Good S) {v u : Nat} (hu : u ∈ S.near v) (ho : ∃ x ∈ S.near v, x ≠ u) :
    S.next u v ∈ S.near v ∧ S.next u v ≠ u ∧
    ((rk S v u < rk S v (S.next u v) ∧ ∀ y ∈ S.near v, ¬ (rk S v u < rk S v y ∧ rk S v y < rk S v (S.next u v))) ∨
     (rk S v (S.next u v) < rk S v u ∧ ∀ y ∈ S.near v, rk S v (S.next u v) ≤ rk S v y ∧ rk S v y ≤ rk S v u)) := by
  have main := next_min G hu
  obtain ⟨m1, m2⟩ := main
  generalize S.next u v = w at *
  obtain ⟨x, hx, nx⟩ := ho
  have nw : w ≠ u := by
    rintro rfl
    have := m2 x hx nx
    rw [sooner_rk G m1 m1 hx] at this
    exact this.1 rfl
  refine ⟨m1, nw, ?_⟩
  have nr : rk S v w ≠ rk S v u := fun e => nw (rk_inj G m1 hu e)
  have fact : ∀ y ∈ S.near v, y ≠ w → y ≠ u → (rk S v u < rk S v w ∧ rk S v w < rk S v y) ∨ (rk S v w < rk S v y ∧ rk S v y < rk S v u) ∨ (rk S v y < rk S v u ∧ rk S v u < rk S v w) := by
    intro y hy n1 n2
    have := m2 y hy n1
    rw [sooner_rk G hu m1 hy] at this
    rcases this.2 with h | h
    · exact absurd h n2
    · exact h
  rcases Nat.lt_or_gt_of_ne nr with h | h
  · right
    refine ⟨h, fun y hy => ?_⟩
    by_cases e1 : y = w
    · subst e1; omega
    · by_cases e2 : y = u
      · subst e2; omega
      · have := fact y hy e1 e2; omega
  · left
    refine ⟨h, fun y hy => ?_⟩
    by_cases e1 : y = w
    · subst e1; omega
    · by_cases e2 : y = u
      · subst e2; omega
      · have := fact y hy e1 e2; omega

/-- next is one to one -/
theorem next_inj {S : Plan} (G : Good S) {v u u' : Nat} (hu : u ∈ S.near v) (hu' : u' ∈ S.near v) (ho : ∃ x ∈ S.near v, x ≠ u) (ho' : ∃ x ∈ S.near v, x ≠ u') (e : S.next u v = S.next u' v) : u = u' := by
  obtain ⟨a1, a2, a3⟩ := next_rk G hu ho
  obtain ⟨b1, b2, b3⟩ := next_rk G hu' ho'
  rw [← e] at b1 b2 b3
  refine rk_inj G hu hu' ?_
  rcases a3 with ⟨a3, a4⟩ | ⟨a3, a4⟩ <;> rcases b3 with ⟨b3, b4⟩ | ⟨b3, b4⟩ <;>
    · have x1 := a4 u' hu'
      have x2 := b4 u hu
      omega

end Geo
end PGeo4

section PGeo5
open GlaPlan
namespace Geo

/-- what is gone round just left of the way a b -/
def Wd (S : Plan) (c : Nat → Nat → Int) (a b : Nat) : Int := Wr S c (ln a b) (ln a b).1 + if a < b then ups c (ln a b) else 0

def sumU (S : Plan) (c : Nat → Nat → Int) (v : Nat) (p : Nat → Bool) : Int := tot (fun m => if m.1 = v ∧ p m.2 = true then ups c m else 0) S.lines
def sumD (S : Plan) (c : Nat → Nat → Int) (v : Nat) (p : Nat → Bool) : Int := tot (fun m => if m.2 = v ∧ p m.1 = true then ups c m else 0) S.lines

theorem sumU_congr {S : Plan} (G : Good S) (c : Nat → Nat → Int) {v : Nat} {p q : Nat → Bool} (h : ∀ y ∈ S.near v, v < y → p y = q y) : sumU S c v p = sumU S c v q := by
  refine tot_congr fun m hm => ?_
  by_cases e : m.1 = v
  · have lm := G.lt m hm
    have : m.2 ∈ S.near v := by rw [mem_near G, ← e, ln_lt lm]; exact hm
    rw [h m.2 this (by omega)]
  · rw [if_neg (fun h => e h.1), if_neg (fun h => e h.1)]
theorem sumD_congr {S : Plan} (G : Good S) (c : Nat → Nat → Int) {v : Nat} {p q : Nat → Bool} (h : ∀ y ∈ S.near v, y < v → p y = q y) : sumD S c v p = sumD S c v q := by
  refine tot_congr fun m hm => ?_
  by_cases e : m.2 = v
  · have lm := G.lt m hm
    have : m.1 ∈ S.near v := by rw [mem_near G, ← e, ln_gt lm]; exact hm
    rw [h m.1 this (by omega)]
  · rw [if_neg (fun h => e h.1), if_neg (fun h => e h.1)]
theorem sumU_split (S : Plan) (c : Nat → Nat → Int) (v : Nat) (p q : Nat → Bool) (h : ∀ y, ¬ (p y = true ∧ q y = true)) : sumU S c v (fun y => p y || q y) = sumU S c v p + sumU S c v q := by
  rw [sumU, sumU, sumU, ← tot_add]
  refine tot_congr fun m _ => ?_
  have := h m.2
  by_cases e : m.1 = v <;> cases e1 : p m.2 <;> cases e2 : q m.2 <;> simp_all
theorem sumD_split (S : Plan) (c : Nat → Nat → Int) (v : Nat) (p q : Nat → Bool) (h : ∀ y, ¬ (p y = true ∧ q y = true)) : sumD S c v (fun y => p y || q y) = sumD S c v p + sumD S c v q := by
  rw [sumD, sumD, sumD, ← tot_add]
  refine tot_congr fun m _ => ?_
  have := h m.1
  by_cases e : m.2 = v <;> cases e1 : p m.1 <;> cases e2 : q m.1 <;> simp_all
theorem sumU_none (S : Plan) (c : Nat → Nat → Int) (v : Nat) : sumU S c v (fun _ => false) = 0 := by
  rw [sumU]; exact (tot_congr (fun m _ => by simp)).trans (tot_zero _)
theorem sumD_none (S : Plan) (c : Nat → Nat → Int) (v : Nat) : sumD S c v (fun _ => false) = 0 := by
  rw [sumD]; exact (tot_congr (fun m _ => by simp)).trans (tot_zero _)
theorem sumU_one {S : Plan} (G : Good S) (c : Nat → Nat → Int) {v y : Nat} (hy : y ∈ S.near v) (h : v < y) : sumU S c v (fun x => decide (x = y)) = ups c (ln v y) := by
  have hl := (mem_near G).1 hy
  rw [← tot_one (ups c) G.nd hl, sumU]
  refine tot_congr fun m hm => ?_
  rw [ln_lt h]
  by_cases e : m = (v, y)
  · rw [e]; simp
  · rw [if_neg e, if_neg]
    rintro ⟨e1, e2⟩
    exact e (Prod.ext e1 (by simpa using e2))
theorem sumD_one {S : Plan} (G : Good S) (c : Nat → Nat → Int) {v y : Nat} (hy : y ∈ S.near v) (h : y < v) : sumD S c v (fun x => decide (x = y)) = ups c (ln v y) := by
  have hl := (mem_near G).1 hy
  rw [← tot_one (ups c) G.nd hl, sumD]
  refine tot_congr fun m hm => ?_
  rw [ln_gt h]
  by_cases e : m = (y, v)
  · rw [e]; simp
  · rw [if_neg e, if_neg]
    rintro ⟨e1, e2⟩
    exact e (Prod.ext (by simpa using e2) e1)
theorem circ_UD {S : Plan} {c : Nat → Nat → Int} (C : Circ S c) (v : Nat) : sumU S c v (fun _ => true) = sumD S c v (fun _ => true) := by
  have := C v
  rw [tot_sub] at this
  rw [sumU, sumD]
  simp only [and_true]
  omega

/-- Rt of lines up from v; of lines down from v -/
theorem Rt_up {S : Plan} (G : Good S) {v y z : Nat} (hy : y ∈ S.near v) (hz : z ∈ S.near v) (h1 : v < y) (h2 : v < z) : Rt S (v, y) (v, z) = decide (rk S v y < rk S v z) := by
  have e : Rt S (v, y) (v, z) = decide (cr (dir S v y) (dir S v z) < 0) := by
    rw [cr_turn]; simp [Rt, side]; exact decide_eq_decide.2 Iff.rfl
  rw [e, decide_eq_decide, ← rk_lt G hy hz]
  have h3 : ¬ y < v := by omega
  have h4 : ¬ z < v := by omega
  simp [pc, h1, h2, h3, h4]
theorem Rt_dn {S : Plan} (G : Good S) {v y z : Nat} (hy : y ∈ S.near v) (hz : z ∈ S.near v) (h1 : y < v) (h2 : z < v) : Rt S (y, v) (z, v) = decide (rk S v z < rk S v y) := by
  have e : Rt S (y, v) (z, v) = decide (cr (dir S v z) (dir S v y) < 0) := by
    rw [cr_turn]
    have e1 : turn (S.pt v) (S.pt z) (S.pt y) = turn (S.pt y) (S.pt v) (S.pt z) := turn_cyc _ _ _
    have e2 : turn (S.pt z) (S.pt v) (S.pt y) = - turn (S.pt y) (S.pt v) (S.pt z) := turn_rev _ _ _
    rw [e1]
    rcases Nat.lt_trichotomy y z with h | h | h
    · simp [Rt, side, h]; exact decide_eq_decide.2 Iff.rfl
    · subst h; simp [Rt, side, turn_self2, turn_self1]
    · have h' : ¬ y < z := by omega
      simp [Rt, side, h, h', e2]
  rw [e, decide_eq_decide, ← rk_lt G hz hy]
  have h3 : ¬ v < y := by omega
  have h4 : ¬ v < z := by omega
  simp [pc, h1, h2, h3, h4]

theorem Wd_out {S : Plan} (G : Good S) {c : Nat → Nat → Int} (C : Circ S c) {v y : Nat} (hy : y ∈ S.near v) :
    Wd S c v y = Bs S c v + sumU S c v (fun _ => true) - sumU S c v (fun z => decide (rk S v z < rk S v y)) + sumD S c v (fun z => decide (rk S v z < rk S v y)) := by
  have hl := (mem_near G).1 hy
  have n := near_ne G hy
  rcases Nat.lt_or_ge v y with h | h
  · have t : sumU S c v (fun z => (decide (rk S v z < rk S v y) || decide (z = y)) || decide (rk S v y < rk S v z)) = sumU S c v (fun _ => true) := by
      refine sumU_congr G c fun z hz _ => ?_
      by_cases e : z = y
      · simp [e]
      · have : rk S v z ≠ rk S v y := fun e' => e (rk_inj G hz hy e')
        simp; omega
    rw [sumU_split, sumU_split, sumU_one G c hy h] at t
    · have d : sumD S c v (fun z => decide (rk S v z < rk S v y)) = 0 := by
        rw [← sumD_none S c v]
        refine sumD_congr G c fun z hz g => ?_
        have := rk_cls G hy hz h g
        simp; omega
      have e1 : Wr S c (ln v y) (ln v y).1 = Bs S c v + sumU S c v (fun z => decide (rk S v y < rk S v z)) := by
        rw [ln_lt h] at hl ⊢
        rw [corner_up G, sumU]
        congr 1
        refine tot_congr fun m hm => ?_
        by_cases e : m.1 = v
        · have lm := G.lt m hm
          have hz : m.2 ∈ S.near v := by rw [mem_near G, ← e, ln_lt lm]; exact hm
          have : Rt S (v, y) m = decide (rk S v y < rk S v m.2) := by
            rw [← Rt_up G hy hz h (by omega), ← e]
          rw [this]
        · rw [if_neg (fun h => e h.1), if_neg (fun h => e h.1)]
      rw [Wd, e1, if_pos h, d]; omega
    · intro z; simp; rintro h1 rfl; omega
    · intro z; simp; rintro (h1 | h1)
      · omega
      · subst h1; omega
  · have h : y < v := by omega
    have d : sumU S c v (fun z => decide (rk S v z < rk S v y)) = sumU S c v (fun _ => true) := by
      refine sumU_congr G c fun z hz g => ?_
      have := rk_cls G hz hy g h
      simp; omega
    have e1 : Wr S c (ln v y) (ln v y).1 = Bs S c v + sumD S c v (fun z => decide (rk S v z < rk S v y)) := by
      rw [ln_gt h] at hl ⊢
      rw [corner_dn G C hl, sumD]
      congr 1
      refine tot_congr fun m hm => ?_
      by_cases e : m.2 = v
      · have lm := G.lt m hm
        have hz : m.1 ∈ S.near v := by rw [mem_near G, ← e, ln_gt lm]; exact hm
        have : Rt S (y, v) m = decide (rk S v m.1 < rk S v y) := by
          rw [← Rt_dn G hy hz h (by omega), ← e]
        rw [this]
      · rw [if_neg (fun h => e h.1), if_neg (fun h => e h.1)]
    rw [Wd, e1, if_neg (by omega), d]; omega

/-- the way back has the other side -/
theorem Wd_rev (S : Plan) (c : Nat → Nat → Int) {a b : Nat} (n : a ≠ b) : Wd S c a b - Wd S c b a = c a b - c b a := by
  rw [Wd, Wd, ln_comm b a]
  rcases Nat.lt_or_ge a b with h | h
  · rw [if_pos h, if_neg (by omega), ln_lt h, ups]; simp only; omega
  · rw [if_neg (by omega), if_pos (by omega), ln_gt (by omega), ups]; simp only; omega

theorem Wd_in {S : Plan} (G : Good S) {c : Nat → Nat → Int} (C : Circ S c) {v u : Nat} (hu : u ∈ S.near v) :
    Wd S c u v = Bs S c v + sumU S c v (fun _ => true) - sumU S c v (fun z => decide (rk S v z ≤ rk S v u)) + sumD S c v (fun z => decide (rk S v z ≤ rk S v u)) := by
  have n := near_ne G hu
  have o := Wd_out G C hu
  have r := Wd_rev S c n
  have s1 : sumU S c v (fun z => decide (rk S v z ≤ rk S v u)) = sumU S c v (fun z => decide (rk S v z < rk S v u)) + sumU S c v (fun z => decide (z = u)) := by
    rw [← sumU_split]
    · refine sumU_congr G c fun z hz _ => ?_
      by_cases e : z = u
      · simp [e]
      · have : rk S v z ≠ rk S v u := fun e' => e (rk_inj G hz hu e')
        simp [e]; omega
    · intro z; simp; rintro h1 rfl; omega
  have s2 : sumD S c v (fun z => decide (rk S v z ≤ rk S v u)) = sumD S c v (fun z => decide (rk S v z < rk S v u)) + sumD S c v (fun z => decide (z = u)) := by
    rw [← sumD_split]
    · refine sumD_congr G c fun z hz _ => ?_
      by_cases e : z = u
      · simp [e]
      · have : rk S v z ≠ rk S v u := fun e' => e (rk_inj G hz hu e')
        simp [e]; omega
    · intro z; simp; rintro h1 rfl; omega
  rw [s1, s2]
  rcases Nat.lt_or_ge v u with h | h
  · have d : sumD S c v (fun z => decide (z = u)) = 0 := by
      rw [← sumD_none S c v]
      refine sumD_congr G c fun z _ g => ?_
      simp; omega
    rw [d, sumU_one G c hu h, ln_lt h, ups]; simp only; omega
  · have h : u < v := by omega
    have d : sumU S c v (fun z => decide (z = u)) = 0 := by
      rw [← sumU_none S c v]
      refine sumU_congr G c fun z _ g => ?_
      simp; omega
    rw [d, sumD_one G c hu h, ln_gt h, ups]; simp only; omega

/-- **round a corner nothing changes** -/
theorem Wd_next {S : Plan} (G : Good S) {c : Nat → Nat → Int} (C : Circ S c) {v u : Nat} (hu : u ∈ S.near v) (ho : ∃ x ∈ S.near v, x ≠ u) : Wd S c u v = Wd S c v (S.next u v) := by
  obtain ⟨a1, a2, a3⟩ := next_rk G hu ho
  rw [Wd_in G C hu, Wd_out G C a1]
  rcases a3 with ⟨a3, a4⟩ | ⟨a3, a4⟩
  · have e1 := sumU_congr G c (v := v) (p := fun z => decide (rk S v z ≤ rk S v u)) (q := fun z => decide (rk S v z < rk S v (S.next u v))) (by
      intro z hz _
      have := a4 z hz
      simp; omega)
    have e2 := sumD_congr G c (v := v) (p := fun z => decide (rk S v z ≤ rk S v u)) (q := fun z => decide (rk S v z < rk S v (S.next u v))) (by
      intro z hz _
      have := a4 z hz
      simp; omega)
    rw [e1, e2]
  · have e1 := sumU_congr G c (v := v) (p := fun z => decide (rk S v z ≤ rk S v u)) (q := fun z => true) (by
      intro z hz _
      have := a4 z hz
      simp; omega)
    have e2 := sumD_congr G c (v := v) (p := fun z => decide (rk S v z ≤ rk S v u)) (q := fun z => true) (by
      intro z hz _
      have := a4 z hz
      simp; omega)
    have e3 := sumU_congr G c (v := v) (p := fun z => decide (rk S v z < rk S v (S.next u v))) (q := fun z => false) (by
      intro z hz _
      have := a4 z hz
      simp; omega)
    have e4 := sumD_congr G c (v := v) (p := fun z => decide (rk S v z < rk S v (S.next u v))) (q := fun z => false) (by
      intro z hz _
      have := a4 z hz
      simp; omega)
    rw [e1, e2, e3, e4, sumU_none, sumD_none, circ_UD C]; omega

/-- what a way has round it, less itself: the same both ways -/
def El (S : Plan) (c : Nat → Nat → Int) (a b : Nat) : Int := Wd S c a b - c a b
theorem El_rev (S : Plan) (c : Nat → Nat → Int) {a b : Nat} (n : a ≠ b) : El S c a b = El S c b a := by
  have := Wd_rev S c n
  rw [El, El]; omega
theorem El_next {S : Plan} (G : Good S) {c : Nat → Nat → Int} (C : Circ S c) {v u : Nat} (hu : u ∈ S.near v) (ho : ∃ x ∈ S.near v, x ≠ u) (e : c u v = c v (S.next u v)) : El S c u v = El S c v (S.next u v) := by
  rw [El, El, Wd_next G C hu ho, e]

/-- **at a point all lines have it alike**, if it's gone on with there -/
theorem El_at {S : Plan} (G : Good S) {c : Nat → Nat → Int} (C : Circ S c) {v : Nat} (ho : ∀ u ∈ S.near v, ∃ x ∈ S.near v, x ≠ u)
    (hc : ∀ u ∈ S.near v, c u v = c v (S.next u v)) : ∀ u ∈ S.near v, ∀ w ∈ S.near v, El S c v u = El S c v w := by
  have step : ∀ u ∈ S.near v, El S c v u = El S c v (S.next u v) := by
    intro u hu
    rw [El_rev S c (Ne.symm (near_ne G hu))]
    exact El_next G C hu (ho u hu) (hc u hu)
  -- from u on upwards
  have up : ∀ (d : Nat) (u w : Nat), u ∈ S.near v → w ∈ S.near v → rk S v u ≤ rk S v w → rk S v w - rk S v u ≤ d → El S c v u = El S c v w := by
    intro d
    induction d with
    | zero =>
      intro u w hu hw h1 h2
      rw [rk_inj G hu hw (by omega)]
    | succ d ih =>
      intro u w hu hw h1 h2
      by_cases e : rk S v u = rk S v w
      · rw [rk_inj G hu hw e]
      · obtain ⟨a1, a2, a3⟩ := next_rk G hu (ho u hu)
        rcases a3 with ⟨a3, a4⟩ | ⟨a3, a4⟩
        · have := a4 w hw
          rw [step u hu]
          exact ih _ _ a1 hw (by omega) (by omega)
        · have := a4 w hw; omega
  intro u hu w hw
  rcases Nat.le_total (rk S v u) (rk S v w) with h | h
  · exact up _ u w hu hw h (Nat.le_refl _)
  · exact (up _ w u hw hu h (Nat.le_refl _)).symm

end Geo
end PGeo5

section PGeo6
open GlaPlan
namespace Geo

/-! ## ways, one behind the other -/
def it (S : Plan) : Nat → Nat × Nat → Nat × Nat
  | 0, e => e
  | i + 1, e => ((it S i e).2, S.next (it S i e).1 (it S i e).2)
def Da (S : Plan) (e : Nat × Nat) : Prop := e.2 ∈ S.near e.1
/-- every point has two lines at least -/
def Two (S : Plan) : Prop := ∀ v, ∀ u ∈ S.near v, ∃ x ∈ S.near v, x ≠ u

theorem it_da {S : Plan} (G : Good S) (T : Two S) {e : Nat × Nat} (h : Da S e) : ∀ i, Da S (it S i e)
  | 0 => h
  | i + 1 => by
    have := it_da G T h i
    exact (next_rk G ((near_symm G).1 this) (T _ _ ((near_symm G).1 this))).1
theorem it_succ (S : Plan) (i : Nat) (e : Nat × Nat) : it S (i + 1) e = ((it S i e).2, S.next (it S i e).1 (it S i e).2) := rfl
theorem it_add (S : Plan) (j : Nat) (e : Nat × Nat) : ∀ i, it S (i + j) e = it S i (it S j e)
  | 0 => by rw [Nat.zero_add]; rfl
  | i + 1 => by rw [Nat.add_right_comm, it_succ, it_add S j e i, it_succ]
theorem it_one_inj {S : Plan} (G : Good S) (T : Two S) {e e' : Nat × Nat} (h : Da S e) (h' : Da S e') (q : it S 1 e = it S 1 e') : e = e' := by
  simp only [it, Prod.mk.injEq] at q
  obtain ⟨q1, q2⟩ := q
  have a := (near_symm G).1 h
  have b := (near_symm G).1 h'
  rw [← q1] at b q2
  exact Prod.ext (next_inj G a b (T _ _ a) (T _ _ b) q2) q1
theorem it_inj {S : Plan} (G : Good S) (T : Two S) {e e' : Nat × Nat} (h : Da S e) (h' : Da S e') : ∀ i, it S i e = it S i e' → e = e'
  | 0, q => q
  | i + 1, q => by
    refine it_inj G T h h' i (it_one_inj G T (it_da G T h i) (it_da G T h' i) ?_)
    rw [← it_add, ← it_add, Nat.add_comm 1 i]; exact q

theorem sub_len {α : Type} [DecidableEq α] : ∀ {l m : List α}, l.Nodup → (∀ x ∈ l, x ∈ m) → l.length ≤ m.length
  | [], _, _, _ => Nat.zero_le _
  | x :: r, m, nd, h => by
    rw [List.nodup_cons] at nd
    have hx := h x (by simp)
    have i := sub_len (m := m.erase x) nd.2 (fun y hy => (List.mem_erase_of_ne (fun (e : y = x) => nd.1 (e ▸ hy))).2 (h y (by simp [hy])))
    rw [List.length_erase_of_mem hx] at i
    have : 0 < m.length := List.length_pos_of_mem hx
    rw [List.length_cons]; omega
theorem nodup_range_map {α : Type} {f : Nat → α} {n : Nat} (h : ∀ i j, i < j → j < n → f i ≠ f j) : ((List.range n).map f).Nodup := by
  rw [List.Nodup, List.pairwise_map]
  refine List.Pairwise.imp_of_mem ?_ (List.pairwise_lt_range (n := n))
  intro a b ha hb hab
  exact h a b hab (List.mem_range.1 hb)
theorem least {P : Nat → Prop} : ∀ k, P k → ∃ k, P k ∧ ∀ j, j < k → ¬ P j := by
  intro k
  induction k using Nat.strongRecOn with
  | _ k ih =>
    intro h
    by_cases e : ∃ j, j < k ∧ P j
    · obtain ⟨j, h1, h2⟩ := e
      exact ih j h1 h2
    · exact ⟨k, h, fun j hj hp => e ⟨j, hj, hp⟩⟩

theorem mem_ways {S : Plan} (G : Good S) {e : Nat × Nat} : e ∈ ways S ↔ Da S e := by
  rw [ways, List.mem_flatMap, Da, mem_near G]
  constructor
  · rintro ⟨l, hl, h⟩
    have := G.lt l hl
    simp only [List.mem_cons, List.not_mem_nil, or_false] at h
    rcases h with rfl | rfl
    · rw [ln_lt this]; exact hl
    · simp only; rw [ln_gt this]; exact hl
  · intro h
    refine ⟨_, h, ?_⟩
    have := G.lt _ h
    rcases Nat.lt_trichotomy e.1 e.2 with g | g | g
    · rw [ln_lt g]; simp
    · rw [g] at this; simp [ln] at this
    · rw [ln_gt g]; simp
theorem len_ways (S : Plan) : (ways S).length = 2 * S.lines.length := by
  rw [ways]
  induction S.lines with
  | nil => rfl
  | cons a r ih => rw [List.flatMap_cons, List.length_append, ih, List.length_cons]; simp; omega

/-- a row of k ways, each once, round to the first -/
structure Per (S : Plan) (e : Nat × Nat) (k : Nat) : Prop where
  pos : 1 ≤ k
  le : k ≤ 2 * S.lines.length
  back : it S k e = e
  dist : ∀ i j, i < j → j < k → it S i e ≠ it S j e

theorem per_ex {S : Plan} (G : Good S) (T : Two S) {e : Nat × Nat} (h : Da S e) : ∃ k, Per S e k := by
  have p1 : ∃ k, 1 ≤ k ∧ k ≤ 2 * S.lines.length ∧ it S k e = e := by
    refine Classical.byContradiction fun hh => ?_
    have nd : ((List.range (2 * S.lines.length + 1)).map (fun i => it S i e)).Nodup := by
      refine nodup_range_map fun i j h1 h2 q => hh ⟨j - i, by omega, by omega, ?_⟩
      refine it_inj G T (it_da G T h _) h i ?_
      rw [← it_add, show i + (j - i) = j by omega]; exact q.symm
    have := sub_len (m := ways S) nd (fun x hx => by
      obtain ⟨i, _, rfl⟩ := List.mem_map.1 hx
      exact (mem_ways G).2 (it_da G T h i))
    rw [len_ways, List.length_map, List.length_range] at this
    omega
  obtain ⟨k0, h0⟩ := p1
  obtain ⟨k, ⟨h1, h2, h3⟩, hl⟩ := least (P := fun k => 1 ≤ k ∧ k ≤ 2 * S.lines.length ∧ it S k e = e) k0 h0
  refine ⟨k, h1, h2, h3, fun i j hij hj q => ?_⟩
  refine hl (j - i) (by omega) ⟨by omega, by omega, ?_⟩
  refine it_inj G T (it_da G T h _) h i ?_
  rw [← it_add, show i + (j - i) = j by omega]; exact q.symm

theorem round_eq {S : Plan} {e : Nat × Nat} {k : Nat} (P : Per S e k) : ∀ (n i : Nat), i < k → k - i ≤ n → S.round n e (it S i e) = (List.range (k - i)).map fun t => (it S (i + t) e).1
  | 0, i, h1, h2 => by omega
  | n + 1, i, h1, h2 => by
    rw [Plan.round]
    have e1 : ((it S i e).2, S.next (it S i e).1 (it S i e).2) = it S (i + 1) e := rfl
    simp only [e1]
    by_cases h : i + 1 = k
    · rw [h, P.back, if_pos rfl, show k - i = 1 by omega]; simp
    · have ne : it S (i + 1) e ≠ e := fun q => P.dist 0 (i + 1) (by omega) (by omega) q.symm
      rw [if_neg ne, round_eq P n (i + 1) (by omega) (by omega), show k - i = (k - (i + 1)) + 1 by omega, List.range_succ_eq_map, List.map_cons, List.map_map]
      congr 1
      refine List.map_congr_left fun t _ => ?_
      simp only [Function.comp]
      rw [show i + 1 + t = i + t.succ by omega]

/-! ## what rows of points go round -/
def seg (f : Nat → Nat) (i : Nat) : Nat → Nat → Nat → Int
  | 0, _, _ => 0
  | m + 1, x, y => seg f i m x y + if f (i + m) = x ∧ f (i + m + 1) = y then 1 else 0

def flux (S : Plan) (c : Nat → Nat → Int) (v : Nat) : Int := tot (fun m => (if m.1 = v then ups c m else 0) - (if m.2 = v then ups c m else 0)) S.lines
theorem flux_add (S : Plan) (c d : Nat → Nat → Int) (v : Nat) : flux S (fun x y => c x y + d x y) v = flux S c v + flux S d v := by
  rw [flux, flux, flux, ← tot_add]
  refine tot_congr fun m _ => ?_
  simp only [ups]
  split <;> split <;> omega
def ind (a b : Nat) (x y : Nat) : Int := if a = x ∧ b = y then 1 else 0
/-- a sum over lines, of one way: what its line has -/
theorem tot_ind {S : Plan} (G : Good S) {a b : Nat} (h : b ∈ S.near a) (p : Nat × Nat → Int) :
    tot (fun m => p m * ups (ind a b) m) S.lines = p (ln a b) * (if a < b then 1 else -1) := by
  have hl := (mem_near G).1 h
  have n := near_ne G h
  rw [← tot_one (fun m => p m * (if a < b then 1 else -1)) G.nd hl]
  refine tot_congr fun m hm => ?_
  have lm := G.lt m hm
  by_cases e : m = ln a b
  · rw [if_pos e, e]
    rcases Nat.lt_or_ge a b with g | g
    · rw [ln_lt g, if_pos g]
      have e1 : ups (ind a b) (a, b) = 1 := by
        have : ¬ (a = b ∧ b = a) := by omega
        simp [ups, ind, this]
      rw [e1]
    · have g : b < a := by omega
      rw [ln_gt g, if_neg (by omega)]
      have e1 : ups (ind a b) (b, a) = -1 := by
        have : ¬ (a = b ∧ b = a) := by omega
        simp [ups, ind, this]
      rw [e1]
  · rw [if_neg e]
    have e1 : ¬ (a = m.1 ∧ b = m.2) := by
      rintro ⟨rfl, rfl⟩
      exact e (ln_lt lm).symm
    have e2 : ¬ (a = m.2 ∧ b = m.1) := by
      rintro ⟨rfl, rfl⟩
      exact e (ln_gt lm).symm
    simp only [ups, ind]
    rw [if_neg e1, if_neg e2]; simp
theorem flux_ind {S : Plan} (G : Good S) {a b : Nat} (h : b ∈ S.near a) (v : Nat) : flux S (ind a b) v = (if a = v then 1 else 0) - (if b = v then 1 else 0) := by
  have n := near_ne G h
  have := tot_ind G h (fun m => (if m.1 = v then 1 else 0) - (if m.2 = v then 1 else 0))
  rw [flux]
  refine Eq.trans (tot_congr fun m _ => ?_) (this.trans ?_)
  · simp only [Int.sub_mul]
    split <;> split <;> omega
  · rcases Nat.lt_or_ge a b with g | g
    · rw [ln_lt g, if_pos g, Int.mul_one]
    · have g' : ¬ a < b := by omega
      rw [ln_gt (by omega), if_neg g', Int.mul_neg, Int.mul_one, Int.neg_sub]
theorem flux_seg {S : Plan} (G : Good S) {f : Nat → Nat} (hf : ∀ i, f (i + 1) ∈ S.near (f i)) (i : Nat) (v : Nat) : ∀ m, flux S (seg f i m) v = (if f i = v then 1 else 0) - (if f (i + m) = v then 1 else 0)
  | 0 => by
    rw [flux, Nat.add_zero, Int.sub_self]
    exact (tot_congr (fun m _ => by simp [ups, seg])).trans (tot_zero _)
  | m + 1 => by
    have e : seg f i (m + 1) = fun x y => seg f i m x y + ind (f (i + m)) (f (i + m + 1)) x y := rfl
    rw [e, flux_add, flux_seg G hf i v m, flux_ind G (hf (i + m)), ← Nat.add_assoc]; omega
theorem circ_seg {S : Plan} (G : Good S) {f : Nat → Nat} (hf : ∀ i, f (i + 1) ∈ S.near (f i)) {i m : Nat} (h : f (i + m) = f i) : Circ S (seg f i m) := by
  intro v
  have := flux_seg G hf i v m
  rw [h, Int.sub_self] at this
  exact this

theorem seg_val (f : Nat → Nat) (i x y : Nat) : ∀ m, (∀ s t, s < t → t < m → ¬ (f (i + s) = f (i + t) ∧ f (i + s + 1) = f (i + t + 1))) →
    (seg f i m x y = 1 ∧ ∃ t, t < m ∧ f (i + t) = x ∧ f (i + t + 1) = y) ∨ (seg f i m x y = 0 ∧ ¬ ∃ t, t < m ∧ f (i + t) = x ∧ f (i + t + 1) = y)
  | 0, _ => by right; refine ⟨rfl, ?_⟩; rintro ⟨t, ht, _⟩; omega
  | m + 1, h => by
    have ih := seg_val f i x y m (fun s t h1 h2 => h s t h1 (by omega))
    rw [seg]
    by_cases e : f (i + m) = x ∧ f (i + m + 1) = y
    · rw [if_pos e]
      rcases ih with ⟨_, t, ht, h1, h2⟩ | ⟨ih, _⟩
      · exact absurd ⟨h1.trans e.1.symm, h2.trans e.2.symm⟩ (h t m ht (by omega))
      · left; exact ⟨by omega, m, by omega, e.1, e.2⟩
    · rw [if_neg e]
      rcases ih with ⟨ih, t, ht, h1, h2⟩ | ⟨ih, hn⟩
      · left; exact ⟨by omega, t, by omega, h1, h2⟩
      · right
        refine ⟨by omega, ?_⟩
        rintro ⟨t, ht, h1, h2⟩
        by_cases q : t = m
        · subst q; exact e ⟨h1, h2⟩
        · exact hn ⟨t, by omega, h1, h2⟩

/-! ## connected -/
inductive Conn (S : Plan) (bad : Nat → Prop) (a : Nat) : Nat → Prop
  | refl : Conn S bad a a
  | step {b c : Nat} : Conn S bad a b → c ∈ S.near b → ¬ bad c → Conn S bad a c

structure Whole (S : Plan) : Prop extends Good S where
  two : Two S
  conn : ∀ v, v < S.pts.length → Conn S (fun _ => False) 0 v
  uncut : ∀ v, v < S.pts.length → ∃ a, a ≠ v ∧ ∀ b, b < S.pts.length → b ≠ v → Conn S (fun x => x = v) a b

/-- the points of a way's row -/
def fa (S : Plan) (e : Nat × Nat) (i : Nat) : Nat := (it S i e).1
theorem fa_it (S : Plan) (e : Nat × Nat) (i : Nat) : it S i e = (fa S e i, fa S e (i + 1)) := rfl
theorem fa_near {S : Plan} (W : Whole S) {e : Nat × Nat} (h : Da S e) (i : Nat) : fa S e (i + 1) ∈ S.near (fa S e i) := it_da W.toGood W.two h i
theorem fa_next (S : Plan) (e : Nat × Nat) (i : Nat) : fa S e (i + 2) = S.next (fa S e i) (fa S e (i + 1)) := rfl

theorem seg_val' {S : Plan} {e : Nat × Nat} {k : Nat} (P : Per S e k) {i m : Nat} (h : i + m ≤ k) (x y : Nat) :
    (seg (fa S e) i m x y = 1 ∧ ∃ t, i ≤ t ∧ t < i + m ∧ it S t e = (x, y)) ∨ (seg (fa S e) i m x y = 0 ∧ ¬ ∃ t, i ≤ t ∧ t < i + m ∧ it S t e = (x, y)) := by
  rcases seg_val (fa S e) i x y m (fun s t h1 h2 ⟨h3, h4⟩ => P.dist (i + s) (i + t) (by omega) (by omega) (Prod.ext h3 h4)) with ⟨h1, t, h2, h3, h4⟩ | ⟨h1, h2⟩
  · left; exact ⟨h1, i + t, by omega, by omega, Prod.ext h3 h4⟩
  · right
    refine ⟨h1, ?_⟩
    rintro ⟨t, h3, h4, h5⟩
    refine h2 ⟨t - i, by omega, ?_⟩
    rw [show i + (t - i) = t by omega]
    rw [fa_it] at h5
    exact ⟨(Prod.mk.inj h5).1, (Prod.mk.inj h5).2⟩

/-- **a row round comes to no point twice** -/
theorem simple {S : Plan} (W : Whole S) {e : Nat × Nat} (h : Da S e) {k : Nat} (P : Per S e k) : ∀ i j, i < j → j < k → fa S e i ≠ fa S e j := by
  intro i j hij hj q
  have G := W.toGood
  have T := W.two
  have nr := fa_near W h
  generalize hv : fa S e i = v at *
  have C : Circ S (seg (fa S e) i (j - i)) := circ_seg G nr (by rw [show i + (j - i) = j by omega, hv, ← q])
  generalize hc : seg (fa S e) i (j - i) = c at *
  have val : ∀ x y, (c x y = 1 ∧ ∃ t, i ≤ t ∧ t < j ∧ it S t e = (x, y)) ∨ (c x y = 0 ∧ ¬ ∃ t, i ≤ t ∧ t < j ∧ it S t e = (x, y)) := by
    intro x y
    have := seg_val' P (i := i) (m := j - i) (by omega) x y
    rw [show i + (j - i) = j by omega, hc] at this
    exact this
  -- at points but v
  have at_ : ∀ x, x ≠ v → ∀ u ∈ S.near x, c u x = c x (S.next u x) := by
    intro x nx u hu
    have fw : (∃ t, i ≤ t ∧ t < j ∧ it S t e = (u, x)) → ∃ t, i ≤ t ∧ t < j ∧ it S t e = (x, S.next u x) := by
      rintro ⟨t, h1, h2, h3⟩
      refine ⟨t + 1, by omega, ?_, by rw [it_succ, h3]⟩
      refine Classical.byContradiction fun hh => ?_
      have : t + 1 = j := by omega
      have e1 : fa S e (t + 1) = x := by
        rw [fa_it] at h3; exact (Prod.mk.inj h3).2
      rw [this, ← q] at e1
      exact nx e1.symm
    have bw : (∃ t, i ≤ t ∧ t < j ∧ it S t e = (x, S.next u x)) → ∃ t, i ≤ t ∧ t < j ∧ it S t e = (u, x) := by
      rintro ⟨t, h1, h2, h3⟩
      have e0 : fa S e t = x := by rw [fa_it] at h3; exact (Prod.mk.inj h3).1
      have : t ≠ i := by
        rintro rfl
        exact nx (e0.symm.trans hv)
      refine ⟨t - 1, by omega, by omega, ?_⟩
      refine it_one_inj G T (it_da G T h _) ((near_symm G).1 hu) ?_
      rw [← it_add, show 1 + (t - 1) = t by omega, h3]; rfl
    rcases val u x with ⟨h1, h2⟩ | ⟨h1, h2⟩ <;> rcases val x (S.next u x) with ⟨h3, h4⟩ | ⟨h3, h4⟩
    · omega
    · exact absurd (fw h2) h4
    · exact absurd (bw h4) h2
    · omega
  have vub : v < S.pts.length := by rw [← hv]; exact (near_ub G (nr i)).2
  obtain ⟨a, na, hcon⟩ := W.uncut v vub
  have all : ∀ x, Conn S (fun x => x = v) a x → ∀ y0 ∈ S.near a, ∀ y ∈ S.near x, El S c x y = El S c a y0 := by
    intro x hx
    induction hx with
    | refl => exact fun y0 h0 y hy => El_at G C (fun u hu => T _ u hu) (at_ a na) y hy y0 h0
    | @step b x hb hx nx ih =>
      intro y0 h0 y hy
      have hb' := (near_symm G).1 hx
      rw [El_at G C (fun u hu => T _ u hu) (at_ x nx) y hy b hb', El_rev S c (Ne.symm (near_ne G hb')), ih y0 h0 x hx]
  have wd : ∀ t, Wd S c (fa S e t) (fa S e (t + 1)) = Wd S c (fa S e i) (fa S e (i + 1)) := by
    have w0 : ∀ t, Wd S c (fa S e t) (fa S e (t + 1)) = Wd S c (fa S e 0) (fa S e 1) := by
      intro t
      induction t with
      | zero => rfl
      | succ t ih =>
        have hu := (near_symm G).1 (nr t)
        rw [← ih, Wd_next G C hu (T _ _ hu), ← fa_next]
    intro t; rw [w0, w0 i]
  have ab : ∀ t, fa S e t = v → ∃ y0 ∈ S.near a, El S c (fa S e t) (fa S e (t + 1)) = El S c a y0 := by
    intro t ht
    have n1 : fa S e (t + 1) ≠ v := by rw [← ht]; exact near_ne G (nr t)
    have hub := (near_ub G (nr t)).1
    have cn := hcon _ hub n1
    have hv' := (near_symm G).1 (nr t)
    -- a has a neighbour
    have : ∃ y0, y0 ∈ S.near a := by
      have gen : ∀ x, Conn S (fun x => x = v) a x → (∃ y, y ∈ S.near x) → ∃ y0, y0 ∈ S.near a := by
        intro x hx
        induction hx with
        | refl => exact id
        | @step b x hb hx nx ih => intro _; exact ih ⟨x, hx⟩
      exact gen _ cn ⟨_, hv'⟩
    obtain ⟨y0, h0⟩ := this
    refine ⟨y0, h0, ?_⟩
    rw [El_rev S c (by rw [ht]; exact Ne.symm n1)]
    exact all _ cn y0 h0 _ hv'
  obtain ⟨y1, g1, x1⟩ := ab i hv
  obtain ⟨y2, g2, x2⟩ := ab j q.symm
  have y12 : El S c a y1 = El S c a y2 := El_at G C (fun u hu => T _ u hu) (at_ a na) y1 g1 y2 g2
  have wj := wd j
  have ci : c (fa S e i) (fa S e (i + 1)) = 1 := by
    rcases val (fa S e i) (fa S e (i + 1)) with ⟨h1, _⟩ | ⟨_, h2⟩
    · exact h1
    · exact absurd ⟨i, by omega, hij, rfl⟩ h2
  have cj : c (fa S e j) (fa S e (j + 1)) = 0 := by
    rcases val (fa S e j) (fa S e (j + 1)) with ⟨_, t, h2, h3, h4⟩ | ⟨h1, _⟩
    · exact absurd h4 (P.dist t j h3 hj)
    · exact h1
  simp only [El] at x1 x2 y12
  omega

end Geo
end PGeo6

section PGeo7
open GlaPlan
namespace Geo

/-- z left of p q, right of a b, a from p on: a is left of p q -/
theorem tee' {α β : Int} {p q a b z : Pt} (hx : crosses p q a b = false)
    (hpa : lev α β p ≤ lev α β a) (hpz : lev α β p ≤ lev α β z) (hzq : lev α β z < lev α β q) (haz : lev α β a ≤ lev α β z) (hzb : lev α β z < lev α β b)
    (hz1 : 0 < turn p q z) (hz2 : turn a b z < 0) : 0 ≤ turn p q a := by
  refine Int.not_lt.mp fun hA => ?_
  have m1 := master α β p q a b z
  have s1 : 0 < turn p q z * (lev α β b - lev α β a) := pp hz1 (by omega)
  have s2 : turn a b z * (lev α β q - lev α β p) < 0 := np hz2 (by omega)
  have s3 : turn p q a * (lev α β b - lev α β z) < 0 := np hA (by omega)
  have hgt : lev α β a < lev α β z := by
    rcases Int.lt_or_le (lev α β a) (lev α β z) with h | h
    · exact h
    · have e : lev α β z - lev α β a = 0 := by omega
      rw [e, Int.mul_zero] at m1; omega
  have hB : 0 < turn p q b := pos_l (b := lev α β z - lev α β a) (by omega) (by omega)
  have m2 := master α β a b p q z
  have m3 := master α β a b p q a
  rw [turn_self1, Int.zero_mul] at m3
  have s4 : turn p q a * (lev α β b - lev α β a) < 0 := np hA (by omega)
  have e0 : lev α β p < lev α β z := by
    rcases Int.lt_or_le (lev α β p) (lev α β a) with h | h <;> omega
  by_cases hpa' : lev α β p < lev α β a
  · obtain ⟨u, v⟩ := weigh (a := - turn a b p) (b := - turn a b q) (w1 := lev α β q - lev α β a) (w2 := lev α β q - lev α β z) (v1 := lev α β a - lev α β p) (v2 := lev α β z - lev α β p) (by rw [Int.neg_mul, Int.neg_mul]; omega) (by rw [Int.neg_mul, Int.neg_mul]; omega) (by omega) (by omega) (by omega) (by omega)
    have := crosses_of (np hA hB) (pn (show 0 < turn a b p by omega) (show turn a b q < 0 by omega))
    rw [hx] at this; exact Bool.noConfusion this
  · have e1 : lev α β a - lev α β p = 0 := by omega
    rw [e1, Int.mul_zero] at m3
    have u : 0 < turn a b p := pos_l (b := lev α β q - lev α β a) (by omega) (by omega)
    have t1 := pp u (show 0 < lev α β q - lev α β z by omega)
    have v : turn a b q < 0 := neg_l (b := lev α β z - lev α β p) (by omega) (by omega)
    have := crosses_of (np hA hB) (pn u v)
    rw [hx] at this; exact Bool.noConfusion this

theorem Rt_anti {S : Plan} {l m : Nat × Nat} (h1 : Rt S l m = true) (h2 : Rt S m l = true) : False := by
  rcases Nat.lt_trichotomy l.1 m.1 with h | h | h
  · rw [Rt_lo h] at h1; rw [Rt_lo' h] at h2
    simp only [decide_eq_true_eq] at h1 h2; omega
  · have e : side S m l.2 = - side S l m.2 := by simp only [side, h]; exact turn_swap2 _ _ _
    simp [Rt, h, e] at h1 h2; omega
  · rw [Rt_lo' h] at h1; rw [Rt_lo h] at h2
    simp only [decide_eq_true_eq] at h1 h2; omega
theorem Rt_total {S : Plan} (G : Good S) {l m : Nat × Nat} (hl : l ∈ S.lines) (hm : m ∈ S.lines) {k : Nat} (a1 : l.1 ≤ k) (a2 : k < l.2) (b1 : m.1 ≤ k) (b2 : k < m.2) (n : l ≠ m) : Rt S l m = true ∨ Rt S m l = true := by
  rcases Nat.lt_trichotomy l.1 m.1 with h | h | h
  · rw [Rt_lo h, Rt_lo' h]
    have := side_ne G hl h (by omega)
    simp only [decide_eq_true_eq]; omega
  · have e : side S m l.2 = - side S l m.2 := by simp only [side, h]; exact turn_swap2 _ _ _
    have ne : l.2 ≠ m.2 := fun e => n (Prod.ext h e)
    simp [Rt, h, e]
    rcases Nat.lt_or_gt_of_ne ne with g | g
    · have := side_ne G hm (v := l.2) (by omega) g; omega
    · have := side_ne G hl (v := m.2) (by omega) g; omega
  · rw [Rt_lo h, Rt_lo' h]
    have := side_ne G hm h (by omega)
    simp only [decide_eq_true_eq]; omega

/-- what a point tells of two lines at its level -/
theorem Rt_by {S : Plan} (G : Good S) {α β : Int} (mono : ∀ i j, i ≤ j → j < S.pts.length → lev α β (S.pt i) ≤ lev α β (S.pt j))
    {l m : Nat × Nat} (hl : l ∈ S.lines) (hm : m ∈ S.lines) (o1 : l.1 < m.2) (o2 : m.1 < l.2) {z : Pt}
    (a1 : lev α β (S.pt l.1) ≤ lev α β z) (a2 : lev α β z < lev α β (S.pt l.2)) (b1 : lev α β (S.pt m.1) ≤ lev α β z) (b2 : lev α β z < lev α β (S.pt m.2))
    (h1 : turn (S.pt l.1) (S.pt l.2) z < 0) (h2 : 0 < turn (S.pt m.1) (S.pt m.2) z) : Rt S l m = true := by
  have ul := G.ub l hl
  have um := G.ub m hm
  have ll := G.lt l hl
  have lm := G.lt m hm
  rcases Nat.lt_trichotomy l.1 m.1 with h | h | h
  · rw [Rt_lo h]
    have n := side_ne G hl h o2
    have t := tee (G.nox l hl m hm) (mono _ _ (Nat.le_of_lt h) (by omega)) a1 a2 b1 b2 h1 h2
    refine decide_eq_true ?_
    simp only [side] at n ⊢; omega
  · have m1 := master α β (S.pt l.1) (S.pt l.2) (S.pt m.1) (S.pt m.2) z
    rw [← h, turn_self1, Int.zero_mul] at m1
    rw [← h] at b1 h2
    have s1 := np h1 (show 0 < lev α β (S.pt m.2) - lev α β (S.pt l.1) by omega)
    have s2 := pp h2 (show 0 < lev α β (S.pt l.2) - lev α β (S.pt l.1) by omega)
    have : side S l m.2 < 0 := by
      rcases Int.lt_or_le (lev α β (S.pt l.1)) (lev α β z) with g | g
      · exact neg_l (b := lev α β z - lev α β (S.pt l.1)) (by simp only [side]; omega) (by omega)
      · rw [show lev α β z - lev α β (S.pt l.1) = 0 by omega, Int.mul_zero] at m1; omega
    simp [Rt, h, this]
  · rw [Rt_lo' h]
    have n := side_ne G hm h o1
    have t := tee' (G.nox m hm l hl) (mono _ _ (Nat.le_of_lt h) (by omega)) b1 b2 a1 a2 h2 h1
    refine decide_eq_true ?_
    simp only [side] at n ⊢; omega

theorem no_three {S : Plan} (G : Good S) {a b c : Nat × Nat} (ha : a ∈ S.lines) (hb : b ∈ S.lines) (hc : c ∈ S.lines) {k : Nat}
    (a1 : a.1 ≤ k) (a2 : k < a.2) (b1 : b.1 ≤ k) (b2 : k < b.2) (c1 : c.1 ≤ k) (c2 : k < c.2) (m1 : a.1 ≤ b.1) (m2 : c.1 ≤ b.1)
    (h1 : Rt S a b = true) (h2 : Rt S b c = true) (h3 : Rt S c a = true) : False := by
  rcases Nat.lt_or_ge a.1 b.1 with g1 | g1
  · rcases Nat.lt_or_ge c.1 b.1 with g2 | g2
    · rw [Rt_lo g1] at h1
      rw [Rt_lo' g2] at h2
      simp only [decide_eq_true_eq] at h1 h2
      refine Rt_anti h3 (Rt_by G (α := (S.w : Int) + 1) (β := 1) (fun i j => hg_le G) ha hc (by omega) (by omega) (z := S.pt b.1) ?_ ?_ ?_ ?_ h1 h2)
      · exact hg_le G m1 (by have := G.ub a ha; omega)
      · exact hg_lt G (by omega) (G.ub a ha)
      · exact hg_le G m2 (by have := G.ub a ha; omega)
      · exact hg_lt G (by omega) (G.ub c hc)
    · have e : c.1 = b.1 := by omega
      rw [Rt_lo g1] at h1
      rw [Rt_lo' (show a.1 < c.1 by omega), e] at h3
      simp only [decide_eq_true_eq] at h1 h3; omega
  · have e : a.1 = b.1 := by omega
    rcases Nat.lt_or_ge c.1 b.1 with g2 | g2
    · rw [Rt_lo' g2] at h2
      rw [Rt_lo (show c.1 < a.1 by omega), e] at h3
      simp only [decide_eq_true_eq] at h2 h3; omega
    · have e2 : c.1 = b.1 := by omega
      obtain ⟨v, y⟩ := b
      obtain ⟨av, x⟩ := a
      obtain ⟨cv, w⟩ := c
      simp only at *
      subst e e2
      have nx : x ∈ S.near cv := by rw [mem_near G, ln_lt (by omega)]; exact ha
      have ny : y ∈ S.near cv := by rw [mem_near G, ln_lt (by omega)]; exact hb
      have nw : w ∈ S.near cv := by rw [mem_near G, ln_lt (by omega)]; exact hc
      rw [Rt_up G nx ny (by omega) (by omega)] at h1
      rw [Rt_up G ny nw (by omega) (by omega)] at h2
      rw [Rt_up G nw nx (by omega) (by omega)] at h3
      simp only [decide_eq_true_eq] at h1 h2 h3; omega

theorem Rt_trans {S : Plan} (G : Good S) {a b c : Nat × Nat} (ha : a ∈ S.lines) (hb : b ∈ S.lines) (hc : c ∈ S.lines) {k : Nat}
    (a1 : a.1 ≤ k) (a2 : k < a.2) (b1 : b.1 ≤ k) (b2 : k < b.2) (c1 : c.1 ≤ k) (c2 : k < c.2)
    (h1 : Rt S a b = true) (h2 : Rt S b c = true) : Rt S a c = true := by
  by_cases e : a = c
  · subst e; exact (Rt_anti h1 h2).elim
  · rcases Rt_total G ha hc a1 a2 c1 c2 e with h | h
    · exact h
    · exfalso
      by_cases m1 : a.1 ≤ b.1 ∧ c.1 ≤ b.1
      · exact no_three G ha hb hc a1 a2 b1 b2 c1 c2 m1.1 m1.2 h1 h2 h
      · by_cases m2 : b.1 ≤ c.1 ∧ a.1 ≤ c.1
        · exact no_three G hb hc ha b1 b2 c1 c2 a1 a2 m2.1 m2.2 h2 h h1
        · exact no_three G hc ha hb c1 c2 a1 a2 b1 b2 (by omega) (by omega) h h1 h2

/-! ## a mark -/
/-- a line that passes a point's level, the point left of it -/
def hits (S : Plan) (z : Pt) (m : Nat × Nat) : Bool := decide ((S.pt m.1).y ≤ z.y) && (decide (z.y < (S.pt m.2).y) && decide (0 < turn (S.pt m.1) (S.pt m.2) z))
def Zs (S : Plan) (c : Nat → Nat → Int) (z : Pt) : Int := tot (fun m => if hits S z m = true then ups c m else 0) S.lines

theorem mark_edge {S : Plan} (G : Good S) {z : Pt} (cl : onLines S z = false) (ne : ∃ m ∈ S.lines, hits S z m = true) :
    ∃ e ∈ S.lines, hits S z e = true ∧ ∀ c, Circ S c → Zs S c z = Wd S c e.1 e.2 := by
  have offl : ∀ m ∈ S.lines, isOn (S.pt m.1) (S.pt m.2) z = false := by
    intro m hm
    rw [onLines, List.any_eq_false] at cl
    have := cl m hm
    simpa using this
  have lvy : ∀ p : Pt, lev 1 0 p = (p.y : Int) := by intro p; simp [lev]
  have mono : ∀ i j, i ≤ j → j < S.pts.length → lev 1 0 (S.pt i) ≤ lev 1 0 (S.pt j) := by
    intro i j h1 h2
    rw [lvy, lvy]
    have := hg_y G h1 h2; omega
  -- the level
  obtain ⟨m0, hm0, hh0⟩ := ne
  have hh0' := hh0
  simp only [hits, Bool.and_eq_true, decide_eq_true_eq] at hh0
  obtain ⟨j, ⟨j1, j2⟩, j3⟩ := least (P := fun j => j < S.pts.length ∧ z.y < (S.pt j).y) m0.2 ⟨G.ub m0 hm0, hh0.2.1⟩
  have jp : m0.1 < j := by
    refine Classical.byContradiction fun h => ?_
    have := hg_y G (show j ≤ m0.1 by omega) (by have := G.ub m0 hm0; have := G.lt m0 hm0; omega)
    omega
  have lvl : ∀ i, i < S.pts.length → ((S.pt i).y ≤ z.y ↔ i ≤ j - 1) := by
    intro i hi
    constructor
    · intro h
      refine Classical.byContradiction fun h' => ?_
      have := hg_y G (show j ≤ i by omega) hi; omega
    · intro h
      have := j3 i (by omega)
      have : ¬ z.y < (S.pt i).y := fun h' => this ⟨hi, h'⟩
      omega
  have crs : ∀ m ∈ S.lines, ((S.pt m.1).y ≤ z.y ∧ z.y < (S.pt m.2).y) ↔ (m.1 ≤ j - 1 ∧ j - 1 < m.2) := by
    intro m hm
    have u := G.ub m hm
    have l := G.lt m hm
    have a := lvl m.1 (by omega)
    have b := lvl m.2 u
    omega
  -- the nearest
  let cnt := fun e => (S.lines.filter (fun m => hits S z m)).countP (fun m => Rt S m e)
  obtain ⟨n, ⟨e, he, hh, hn⟩, hmin⟩ := least (P := fun n => ∃ e ∈ S.lines, hits S z e = true ∧ cnt e = n) (cnt m0) ⟨m0, hm0, hh0', rfl⟩
  have hx := hh
  simp only [hits, Bool.and_eq_true, decide_eq_true_eq] at hx
  have ce := (crs e he).1 ⟨hx.1, hx.2.1⟩
  have near_ : ∀ m ∈ S.lines, hits S z m = true → Rt S m e = false := by
    intro m hm hmz
    cases q : Rt S m e with
    | false => rfl
    | true =>
      exfalso
      have hmz' := hmz
      simp only [hits, Bool.and_eq_true, decide_eq_true_eq] at hmz'
      have cm := (crs m hm).1 ⟨hmz'.1, hmz'.2.1⟩
      refine hmin (cnt m) ?_ ⟨m, hm, hmz, rfl⟩
      rw [← hn]
      refine countP_lt ?_ (List.mem_filter.2 ⟨hm, hmz⟩) (Rt_self m) q
      intro x hxm hxr
      obtain ⟨hxl, hxz⟩ := List.mem_filter.1 hxm
      simp only [hits, Bool.and_eq_true, decide_eq_true_eq] at hxz
      have cx := (crs x hxl).1 ⟨hxz.1, hxz.2.1⟩
      exact Rt_trans G hxl hm he cx.1 cx.2 cm.1 cm.2 ce.1 ce.2 hxr q
  refine ⟨e, he, hh, fun c C => ?_⟩
  have le := G.lt e he
  rw [Wd, ln_lt le, if_pos le, ← Wr_const G C he (j - 1) ce.1 ce.2, ← tot_one (ups c) G.nd he, Wr, Zs, ← tot_add]
  refine tot_congr fun m hm => ?_
  by_cases em : m = e
  · subst em
    rw [if_pos hh, if_pos rfl, if_neg (fun h => by rw [Rt_self] at h; exact Bool.noConfusion h.2.2)]; omega
  · rw [if_neg (show ¬ m = (e.1, e.2) from em), Int.add_zero]
    by_cases cm : m.1 ≤ j - 1 ∧ j - 1 < m.2
    · have ym := (crs m hm).2 cm
      have tne : turn (S.pt m.1) (S.pt m.2) z ≠ 0 := by
        intro h0
        have := offl m hm
        rw [isOn_of (α := 1) (β := 0) h0 (by rw [lvy, lvy]; omega) (by rw [lvy, lvy]; omega) (by rw [lvy, lvy]; omega)] at this
        exact Bool.noConfusion this
      by_cases tz : 0 < turn (S.pt m.1) (S.pt m.2) z
      · have hm' : hits S z m = true := by simp [hits, ym, tz]
        have : Rt S e m = true := by
          rcases Rt_total G he hm ce.1 ce.2 cm.1 cm.2 (Ne.symm em) with h | h
          · exact h
          · rw [near_ m hm hm'] at h; exact Bool.noConfusion h
        rw [if_pos hm', if_pos ⟨cm.1, cm.2, this⟩]
      · have hm' : ¬ hits S z m = true := by simp [hits, tz]
        rw [if_neg hm', if_neg]
        rintro ⟨_, _, h⟩
        refine Rt_anti h (Rt_by G mono hm he (by omega) (by omega) (z := z) ?_ ?_ ?_ ?_ (by omega) hx.2.2) <;> rw [lvy, lvy] <;> omega
    · have : ¬ hits S z m = true := by
        intro h
        simp only [hits, Bool.and_eq_true, decide_eq_true_eq] at h
        exact cm ((crs m hm).1 ⟨h.1, h.2.1⟩)
      rw [if_neg this, if_neg (fun h => cm ⟨h.1, h.2.1⟩)]

end Geo
end PGeo7

section PGeo8
open GlaPlan
namespace Geo

structure Framed (S : Plan) : Prop extends Whole S where
  wpos : 0 < S.w
  hpos : 0 < S.h
  inh : ∀ i, i < S.pts.length → (S.pt i).y ≤ S.h
  fl : ∀ v, v < S.pts.length → (S.pt v).x = 0 → (S.pt v).y < S.h → ∃ w ∈ S.near v, v < w ∧ (S.pt w).x = 0
  ft : ∀ v, v < S.pts.length → (S.pt v).y = S.h → (S.pt v).x < S.w → ∃ w ∈ S.near v, v < w ∧ (S.pt w).y = S.h
  fr : ∀ v, v < S.pts.length → (S.pt v).x = S.w → 0 < (S.pt v).y → ∃ w ∈ S.near v, w < v ∧ (S.pt w).x = S.w
  fb : ∀ v, v < S.pts.length → (S.pt v).y = 0 → 0 < (S.pt v).x → ∃ w ∈ S.near v, w < v ∧ (S.pt w).y = 0
  top : ∃ v, v < S.pts.length ∧ (S.pt v).x = S.w ∧ (S.pt v).y = S.h

/-- ways round the frame, what's outside to the left -/
def Out (S : Plan) (a b : Nat) : Prop := b ∈ S.near a ∧
  (((S.pt a).x = 0 ∧ (S.pt b).x = 0 ∧ a < b) ∨ ((S.pt a).y = S.h ∧ (S.pt b).y = S.h ∧ a < b) ∨ ((S.pt a).x = S.w ∧ (S.pt b).x = S.w ∧ b < a) ∨ ((S.pt a).y = 0 ∧ (S.pt b).y = 0 ∧ b < a))

theorem lex {S : Plan} (G : Good S) {i j : Nat} (h : i < j) (hj : j < S.pts.length) : (S.pt i).y < (S.pt j).y ∨ ((S.pt i).y = (S.pt j).y ∧ (S.pt i).x < (S.pt j).x) := by
  have o := G.ord i j h hj
  simp only [Pt.below, Bool.or_eq_true, Bool.and_eq_true, decide_eq_true_eq, beq_iff_eq] at o
  exact o

theorem sooner_straight {r d y : Int × Int} (h1 : cr r d = 0) (h2 : r.1 * d.1 + r.2 * d.2 < 0) (h3 : 0 < cr r y) : sooner r d y = true := by
  have e1 : half r d = 1 := by
    have e : half r d = if cr r d < 0 then 0 else if 0 < cr r d then 2 else if r.1 * d.1 + r.2 * d.2 < 0 then 1 else 3 := rfl
    rw [e, if_neg (by omega), if_neg (by omega), if_pos h2]
  have e2 : half r y = 2 := by
    have e : half r y = if cr r y < 0 then 0 else if 0 < cr r y then 2 else if r.1 * y.1 + r.2 * y.2 < 0 then 1 else 3 := rfl
    rw [e, if_neg (by omega), if_pos h3]
  simp [sooner, e1, e2]
theorem sooner_corner {r d y : Int × Int} (h1 : 0 < cr r d) (h3 : 0 < cr r y) (h4 : cr d y < 0) : sooner r d y = true := by
  have e1 : half r d = 2 := by
    have e : half r d = if cr r d < 0 then 0 else if 0 < cr r d then 2 else if r.1 * d.1 + r.2 * d.2 < 0 then 1 else 3 := rfl
    rw [e, if_neg (by omega), if_pos h1]
  have e2 : half r y = 2 := by
    have e : half r y = if cr r y < 0 then 0 else if 0 < cr r y then 2 else if r.1 * y.1 + r.2 * y.2 < 0 then 1 else 3 := rfl
    rw [e, if_neg (by omega), if_pos h3]
  simp only [cr] at h4
  simp [sooner, e1, e2, h4]

theorem next_is {S : Plan} (G : Good S) {u v w : Nat} (hu : u ∈ S.near v) (hw : w ∈ S.near v) (wu : w ≠ u)
    (h : ∀ y ∈ S.near v, y ≠ w → y ≠ u → sooner (dir S v u) (dir S v w) (dir S v y) = true) : S.next u v = w := by
  obtain ⟨m1, m2⟩ := next_min G hu
  refine Classical.byContradiction fun n => ?_
  have a := m2 w hw (fun e => n e.symm)
  have b : sooner (dir S v u) (dir S v w) (dir S v (S.next u v)) = true := by
    by_cases e : S.next u v = u
    · rw [e, sooner_rk G hu hw hu]; exact ⟨wu, .inl rfl⟩
    · exact h _ m1 n e
  rw [sooner_rk G hu m1 hw] at a
  rw [sooner_rk G hu hw m1] at b
  rcases a.2 with a2 | a2
  · exact wu a2
  · rcases b.2 with b2 | b2
    · exact a.1 b2
    · omega

theorem dir_eq (S : Plan) (v y : Nat) : dir S v y = (((S.pt y).x : Int) - (S.pt v).x, ((S.pt y).y : Int) - (S.pt v).y) := rfl

theorem out_next {S : Plan} (F : Framed S) {u v : Nat} (h : Out S u v) : Out S v (S.next u v) := by
  have G := F.toGood
  obtain ⟨hn, h⟩ := h
  have hu := (near_symm G).1 hn
  have ub := near_ub G hu
  have wp := F.wpos
  have hp := F.hpos
  have iu := G.inw u ub.1
  have iv := G.inw v ub.2
  have ju := F.inh u ub.1
  have jv := F.inh v ub.2
  -- the next point round the frame
  have ex : ∃ w ∈ S.near v, (Out S v w ∧ w ≠ u) ∧ ∀ y ∈ S.near v, y ≠ w → y ≠ u → sooner (dir S v u) (dir S v w) (dir S v y) = true := by
    -- the shape: a point y joined with v isn't in u's or w's direction
    have ndu : ∀ y ∈ S.near v, y ≠ u → cr (dir S v u) (dir S v y) = 0 → (v < u ∧ y < v) ∨ (u < v ∧ v < y) := by
      intro y hy n e
      have := cr_ne G hu hy (Ne.symm n) e
      rw [hv_pos G hu, hv_neg G hu, hv_pos G hy, hv_neg G hy] at this; exact this
    have ndw : ∀ w ∈ S.near v, ∀ y ∈ S.near v, y ≠ w → cr (dir S v w) (dir S v y) = 0 → (v < w ∧ y < v) ∨ (w < v ∧ v < y) := by
      intro w hw y hy n e
      have := cr_ne G hw hy (Ne.symm n) e
      rw [hv_pos G hw, hv_neg G hw, hv_pos G hy, hv_neg G hy] at this; exact this
    have lx : ∀ y ∈ S.near v, (v < y ∧ ((S.pt v).y < (S.pt y).y ∨ ((S.pt v).y = (S.pt y).y ∧ (S.pt v).x < (S.pt y).x))) ∨ (y < v ∧ ((S.pt y).y < (S.pt v).y ∨ ((S.pt y).y = (S.pt v).y ∧ (S.pt y).x < (S.pt v).x))) := by
      intro y hy
      have a := near_ub G hy
      have b := near_ne G hy
      rcases Nat.lt_or_ge v y with g | g
      · exact .inl ⟨g, lex G g a.1⟩
      · exact .inr ⟨by omega, lex G (by omega) a.2⟩
    have lu := lx u hu
    have bnd : ∀ y ∈ S.near v, (S.pt y).x ≤ S.w ∧ (S.pt y).y ≤ S.h := by
      intro y hy
      exact ⟨G.inw y (near_ub G hy).1, F.inh y (near_ub G hy).1⟩
    rcases h with ⟨h1, h2, h3⟩ | ⟨h1, h2, h3⟩ | ⟨h1, h2, h3⟩ | ⟨h1, h2, h3⟩
    · by_cases c : (S.pt v).y < S.h
      · obtain ⟨w, hw, w1, w2⟩ := F.fl v ub.2 h2 c
        refine ⟨w, hw, ⟨⟨hw, .inl ⟨h2, w2, w1⟩⟩, by omega⟩, fun y hy n1 n2 => ?_⟩
        have lw := lx w hw
        have ly := lx y hy
        have yx : 0 < (S.pt y).x := by
          refine Nat.pos_of_ne_zero fun z => ?_
          have a := ndu y hy n2 (by simp only [cr, dir_eq, z, h1, h2]; simp)
          have b := ndw w hw y hy n1 (by simp only [cr, dir_eq, z, w2, h2]; simp)
          omega
        refine sooner_straight ?_ ?_ ?_ <;> simp only [cr, dir_eq, h1, h2, w2, Int.sub_self, Int.zero_mul, Int.mul_zero, Int.zero_sub, Int.zero_add]
        · exact np (by omega) (by omega)
        · rw [← Int.neg_mul]; exact pp (by omega) (by omega)
      · have e : (S.pt v).y = S.h := by omega
        obtain ⟨w, hw, w1, w2⟩ := F.ft v ub.2 e (by omega)
        refine ⟨w, hw, ⟨⟨hw, .inr (.inl ⟨e, w2, w1⟩)⟩, by omega⟩, fun y hy n1 n2 => ?_⟩
        have lw := lx w hw
        have ly := lx y hy
        have b1 := bnd y hy
        have yx : 0 < (S.pt y).x := by
          refine Nat.pos_of_ne_zero fun z => ?_
          have a := ndu y hy n2 (by simp only [cr, dir_eq, z, h1, h2]; simp)
          omega
        have yy : (S.pt y).y < S.h := by
          refine Nat.lt_of_le_of_ne b1.2 fun z => ?_
          have a := ndw w hw y hy n1 (by simp only [cr, dir_eq, z, w2, e]; simp)
          omega
        refine sooner_corner ?_ ?_ ?_ <;> simp only [cr, dir_eq, h1, h2, w2, e, Int.sub_self, Int.zero_mul, Int.mul_zero, Int.zero_sub, Int.sub_zero]
        · rw [← Int.neg_mul]; exact pp (by omega) (by omega)
        · rw [← Int.neg_mul]; exact pp (by omega) (by omega)
        · exact pn (by omega) (by omega)
    · by_cases c : (S.pt v).x < S.w
      · obtain ⟨w, hw, w1, w2⟩ := F.ft v ub.2 h2 c
        refine ⟨w, hw, ⟨⟨hw, .inr (.inl ⟨h2, w2, w1⟩)⟩, by omega⟩, fun y hy n1 n2 => ?_⟩
        have lw := lx w hw
        have ly := lx y hy
        have b1 := bnd y hy
        have yx : (S.pt y).y < S.h := by
          refine Nat.lt_of_le_of_ne b1.2 fun z => ?_
          have a := ndu y hy n2 (by simp only [cr, dir_eq, z, h1, h2]; simp)
          have b := ndw w hw y hy n1 (by simp only [cr, dir_eq, z, w2, h2]; simp)
          omega
        refine sooner_straight ?_ ?_ ?_ <;> simp only [cr, dir_eq, h1, h2, w2, Int.sub_self, Int.zero_mul, Int.mul_zero, Int.zero_sub, Int.add_zero, Int.sub_zero]
        · exact np (by omega) (by omega)
        · exact nn (by omega) (by omega)
      · have e : (S.pt v).x = S.w := by omega
        obtain ⟨w, hw, w1, w2⟩ := F.fr v ub.2 e (by omega)
        refine ⟨w, hw, ⟨⟨hw, .inr (.inr (.inl ⟨e, w2, w1⟩))⟩, ?_⟩, fun y hy n1 n2 => ?_⟩
        · rintro rfl; have := lx w hw; omega
        have lw := lx w hw
        have ly := lx y hy
        have b1 := bnd y hy
        have yy : (S.pt y).y < S.h := by
          refine Nat.lt_of_le_of_ne b1.2 fun z => ?_
          have a := ndu y hy n2 (by simp only [cr, dir_eq, z, h1, h2]; simp)
          omega
        have yx : (S.pt y).x < S.w := by
          refine Nat.lt_of_le_of_ne b1.1 fun z => ?_
          have a := ndw w hw y hy n1 (by simp only [cr, dir_eq, z, w2, e]; simp)
          omega
        refine sooner_corner ?_ ?_ ?_ <;> simp only [cr, dir_eq, h1, h2, w2, e, Int.sub_self, Int.zero_mul, Int.mul_zero, Int.zero_sub, Int.sub_zero]
        · exact nn (by omega) (by omega)
        · exact nn (by omega) (by omega)
        · rw [← Int.neg_mul]; exact pn (by omega) (by omega)
    · by_cases c : 0 < (S.pt v).y
      · obtain ⟨w, hw, w1, w2⟩ := F.fr v ub.2 h2 c
        refine ⟨w, hw, ⟨⟨hw, .inr (.inr (.inl ⟨h2, w2, w1⟩))⟩, by omega⟩, fun y hy n1 n2 => ?_⟩
        have lw := lx w hw
        have ly := lx y hy
        have b1 := bnd y hy
        have yx : (S.pt y).x < S.w := by
          refine Nat.lt_of_le_of_ne b1.1 fun z => ?_
          have a := ndu y hy n2 (by simp only [cr, dir_eq, z, h1, h2]; simp)
          have b := ndw w hw y hy n1 (by simp only [cr, dir_eq, z, w2, h2]; simp)
          omega
        refine sooner_straight ?_ ?_ ?_ <;> simp only [cr, dir_eq, h1, h2, w2, Int.sub_self, Int.zero_mul, Int.mul_zero, Int.zero_sub, Int.zero_add, Int.sub_zero]
        · exact pn (by omega) (by omega)
        · rw [← Int.neg_mul]; exact nn (by omega) (by omega)
      · have e : (S.pt v).y = 0 := by omega
        obtain ⟨w, hw, w1, w2⟩ := F.fb v ub.2 e (by omega)
        refine ⟨w, hw, ⟨⟨hw, .inr (.inr (.inr ⟨e, w2, w1⟩))⟩, by omega⟩, fun y hy n1 n2 => ?_⟩
        have lw := lx w hw
        have ly := lx y hy
        have b1 := bnd y hy
        have yx : (S.pt y).x < S.w := by
          refine Nat.lt_of_le_of_ne b1.1 fun z => ?_
          have a := ndu y hy n2 (by simp only [cr, dir_eq, z, h1, h2]; simp)
          omega
        have yy : 0 < (S.pt y).y := by
          refine Nat.pos_of_ne_zero fun z => ?_
          have a := ndw w hw y hy n1 (by simp only [cr, dir_eq, z, w2, e]; simp)
          omega
        refine sooner_corner ?_ ?_ ?_ <;> simp only [cr, dir_eq, h1, h2, w2, e, Int.sub_self, Int.zero_mul, Int.mul_zero, Int.zero_sub, Int.sub_zero]
        · rw [← Int.neg_mul]; exact nn (by omega) (by omega)
        · rw [← Int.neg_mul]; exact nn (by omega) (by omega)
        · exact np (by omega) (by omega)
    · by_cases c : 0 < (S.pt v).x
      · obtain ⟨w, hw, w1, w2⟩ := F.fb v ub.2 h2 c
        refine ⟨w, hw, ⟨⟨hw, .inr (.inr (.inr ⟨h2, w2, w1⟩))⟩, by omega⟩, fun y hy n1 n2 => ?_⟩
        have lw := lx w hw
        have ly := lx y hy
        have b1 := bnd y hy
        have yx : 0 < (S.pt y).y := by
          refine Nat.pos_of_ne_zero fun z => ?_
          have a := ndu y hy n2 (by simp only [cr, dir_eq, z, h1, h2]; simp)
          have b := ndw w hw y hy n1 (by simp only [cr, dir_eq, z, w2, h2]; simp)
          omega
        refine sooner_straight ?_ ?_ ?_ <;> simp only [cr, dir_eq, h1, h2, w2, Int.sub_self, Int.zero_mul, Int.mul_zero, Int.zero_sub, Int.add_zero, Int.sub_zero]
        · exact pn (by omega) (by omega)
        · exact pp (by omega) (by omega)
      · have e : (S.pt v).x = 0 := by omega
        obtain ⟨w, hw, w1, w2⟩ := F.fl v ub.2 e (by omega)
        refine ⟨w, hw, ⟨⟨hw, .inl ⟨e, w2, w1⟩⟩, ?_⟩, fun y hy n1 n2 => ?_⟩
        · rintro rfl; have := lx w hw; omega
        have lw := lx w hw
        have ly := lx y hy
        have b1 := bnd y hy
        have yy : 0 < (S.pt y).y := by
          refine Nat.pos_of_ne_zero fun z => ?_
          have a := ndu y hy n2 (by simp only [cr, dir_eq, z, h1, h2]; simp)
          omega
        have yx : 0 < (S.pt y).x := by
          refine Nat.pos_of_ne_zero fun z => ?_
          have a := ndw w hw y hy n1 (by simp only [cr, dir_eq, z, w2, e]; simp)
          omega
        refine sooner_corner ?_ ?_ ?_ <;> simp only [cr, dir_eq, h1, h2, w2, e, Int.sub_self, Int.zero_mul, Int.mul_zero, Int.zero_sub, Int.sub_zero]
        · exact pp (by omega) (by omega)
        · exact pp (by omega) (by omega)
        · rw [← Int.neg_mul]; exact np (by omega) (by omega)
  obtain ⟨w, hw, ⟨ow, wu⟩, hs⟩ := ex
  rw [next_is G hu hw wu hs]; exact ow

end Geo
end PGeo8

section PGeo9
open GlaPlan
namespace Geo

/-! ## rows as lists -/
def cp (l : List Nat) : List (Nat × Nat) := l.zip (l.drop 1 ++ l.take 1)
theorem cp_range {f : Nat → Nat} : ∀ {k : Nat}, f k = f 0 → cp ((List.range k).map f) = (List.range k).map fun i => (f i, f (i + 1))
  | 0, _ => rfl
  | m + 1, h => by
    have e : ((List.range (m + 1)).map f).drop 1 ++ ((List.range (m + 1)).map f).take 1 = (List.range (m + 1)).map (fun i => f (i + 1)) := by
      conv => lhs; rw [List.range_succ_eq_map, List.map_cons, List.drop_succ_cons, List.drop_zero, List.take_succ_cons, List.take_zero, List.map_map]
      rw [List.range_succ, List.map_append, List.map_singleton, h]
      rfl
    rw [cp, e, List.zip_map']

def orb (S : Plan) (e : Nat × Nat) : List Nat := S.round (2 * S.lines.length + 1) e e
theorem orb_eq {S : Plan} {e : Nat × Nat} {k : Nat} (P : Per S e k) : orb S e = (List.range k).map (fa S e) := by
  have := round_eq P (2 * S.lines.length + 1) 0 P.pos (by have := P.le; omega)
  rw [orb]
  rw [show it S 0 e = e from rfl] at this
  rw [this]
  simp only [Nat.sub_zero, Nat.zero_add]; rfl
theorem fa_back {S : Plan} {e : Nat × Nat} {k : Nat} (P : Per S e k) : fa S e k = fa S e 0 := by rw [fa, P.back]; rfl
theorem cp_orb {S : Plan} {e : Nat × Nat} {k : Nat} (P : Per S e k) : cp (orb S e) = (List.range k).map fun i => it S i e := by
  rw [orb_eq P, cp_range (fa_back P)]; rfl

def sg (S : Plan) (z : Pt) (x : Nat × Nat) : Int :=
  if (S.pt x.1).y ≤ z.y ∧ z.y < (S.pt x.2).y ∧ 0 < turn (S.pt x.1) (S.pt x.2) z then 1
  else if (S.pt x.2).y ≤ z.y ∧ z.y < (S.pt x.1).y ∧ turn (S.pt x.1) (S.pt x.2) z < 0 then -1 else 0

theorem Zs_add (S : Plan) (c d : Nat → Nat → Int) (z : Pt) : Zs S (fun x y => c x y + d x y) z = Zs S c z + Zs S d z := by
  rw [Zs, Zs, Zs, ← tot_add]
  refine tot_congr fun m _ => ?_
  simp only [ups]; split <;> omega
theorem Zs_ind {S : Plan} (G : Good S) {a b : Nat} (h : b ∈ S.near a) (z : Pt) : Zs S (ind a b) z = sg S z (a, b) := by
  have t := tot_ind G h (fun m => if hits S z m = true then 1 else 0)
  have u := near_ub G h
  have n := near_ne G h
  rw [Zs]
  refine Eq.trans (tot_congr fun m _ => ?_) (t.trans ?_)
  · split <;> omega
  · rcases Nat.lt_or_ge a b with g | g
    · have y := hg_y G (Nat.le_of_lt g) u.1
      rw [ln_lt g, if_pos g, Int.mul_one, sg]
      simp only [hits, Bool.and_eq_true, decide_eq_true_eq]
      split
      · rfl
      · rw [if_neg]; omega
    · have g : b < a := by omega
      have y := hg_y G (Nat.le_of_lt g) u.2
      have g' : ¬ a < b := by omega
      have e : turn (S.pt a) (S.pt b) z = - turn (S.pt b) (S.pt a) z := turn_swap _ _ _
      rw [ln_gt g, if_neg g', sg]
      simp only [hits, Bool.and_eq_true, decide_eq_true_eq, e]
      rw [if_neg (show ¬ ((S.pt a).y ≤ z.y ∧ z.y < (S.pt b).y ∧ 0 < - turn (S.pt b) (S.pt a) z) by omega)]
      by_cases q : (S.pt b).y ≤ z.y ∧ z.y < (S.pt a).y ∧ 0 < turn (S.pt b) (S.pt a) z
      · rw [if_pos q, if_pos (by omega)]; rfl
      · rw [if_neg q, if_neg (by omega)]; rfl
theorem Zs_seg {S : Plan} (G : Good S) {f : Nat → Nat} (hf : ∀ i, f (i + 1) ∈ S.near (f i)) (z : Pt) : ∀ m, Zs S (seg f 0 m) z = tot (fun i => sg S z (f i, f (i + 1))) (List.range m)
  | 0 => by
    rw [Zs]; exact (tot_congr (fun m _ => by simp [ups, seg])).trans (tot_zero _)
  | m + 1 => by
    have e : seg f 0 (m + 1) = fun x y => seg f 0 m x y + ind (f m) (f (m + 1)) x y := by
      funext x y
      rw [seg, Nat.zero_add]; rfl
    rw [e, Zs_add, Zs_seg G hf z m, Zs_ind G (hf m), List.range_succ, tot_append]
    simp [tot]
theorem tot_map {α β : Type} (g : α → β) (f : β → Int) : ∀ l : List α, tot f (l.map g) = tot (fun x => f (g x)) l
  | [] => rfl
  | x :: r => by rw [List.map_cons, tot, tot, tot_map g f r]
theorem Zs_orb {S : Plan} (W : Whole S) {e : Nat × Nat} (h : Da S e) {k : Nat} (P : Per S e k) (z : Pt) : tot (sg S z) (cp (orb S e)) = Zs S (seg (fa S e) 0 k) z := by
  rw [cp_orb P, tot_map, Zs_seg W.toGood (fa_near W h)]; rfl

theorem odd_len {α : Type} (p : α → Bool) (s : α → Int) (hs : ∀ x, (p x = true ∧ (s x = 1 ∨ s x = -1)) ∨ (p x = false ∧ s x = 0)) : ∀ l : List α, ((l.filter p).length : Int) % 2 = tot s l % 2
  | [] => rfl
  | x :: r => by
    have ih := odd_len p s hs r
    rw [tot]
    rcases hs x with ⟨h1, h2⟩ | ⟨h1, h2⟩
    · rw [List.filter_cons_of_pos h1, List.length_cons]
      omega
    · rw [List.filter_cons_of_neg (by simp [h1]), h2]; omega

theorem inside_odd (S : Plan) (l : List Nat) (z : Pt) : insideOf S l z = true ↔ tot (sg S z) (cp l) % 2 = 1 := by
  have key := odd_len (fun (x : Nat × Nat) =>
    let p := S.pt x.1
    let q := S.pt x.2
    (decide (p.y ≤ z.y) && (decide (z.y < q.y) && decide (0 < turn p q z))) || (decide (q.y ≤ z.y) && (decide (z.y < p.y) && decide (turn p q z < 0)))) (sg S z) (by
      intro x
      simp only [sg]
      by_cases a : (S.pt x.1).y ≤ z.y ∧ z.y < (S.pt x.2).y ∧ 0 < turn (S.pt x.1) (S.pt x.2) z
      · left; rw [if_pos a]; simp [a]
      · rw [if_neg a]
        by_cases b : (S.pt x.2).y ≤ z.y ∧ z.y < (S.pt x.1).y ∧ turn (S.pt x.1) (S.pt x.2) z < 0
        · left; rw [if_pos b]; simp [b]
        · right; rw [if_neg b]
          refine ⟨?_, rfl⟩
          rw [Bool.or_eq_false_iff]
          constructor
          · refine Bool.eq_false_iff.2 fun h => a ?_
            simpa using h
          · refine Bool.eq_false_iff.2 fun h => b ?_
            simpa using h) (cp l)
  rw [insideOf, decide_eq_true_eq]
  simp only [cp] at key ⊢
  omega

/-! ## what one row goes round -/
theorem row_next {S : Plan} (W : Whole S) {e : Nat × Nat} (h : Da S e) {k : Nat} (P : Per S e k) : ∀ v, ∀ u ∈ S.near v, seg (fa S e) 0 k u v = seg (fa S e) 0 k v (S.next u v) := by
  intro v u hu
  have G := W.toGood
  have T := W.two
  have fw : (∃ t, 0 ≤ t ∧ t < 0 + k ∧ it S t e = (u, v)) → ∃ t, 0 ≤ t ∧ t < 0 + k ∧ it S t e = (v, S.next u v) := by
    rintro ⟨t, _, h2, h3⟩
    have h4 : it S (t + 1) e = (v, S.next u v) := by rw [it_succ, h3]
    by_cases q : t + 1 = k
    · refine ⟨0, by omega, by have := P.pos; omega, ?_⟩
      rw [← h4, q, P.back]; rfl
    · exact ⟨t + 1, by omega, by omega, h4⟩
  have bw : (∃ t, 0 ≤ t ∧ t < 0 + k ∧ it S t e = (v, S.next u v)) → ∃ t, 0 ≤ t ∧ t < 0 + k ∧ it S t e = (u, v) := by
    rintro ⟨t, _, h2, h3⟩
    have go : ∀ s, it S (s + 1) e = (v, S.next u v) → it S s e = (u, v) := by
      intro s hs
      refine it_one_inj G T (it_da G T h _) ((near_symm G).1 hu) ?_
      rw [← it_add, Nat.add_comm 1 s, hs]; rfl
    by_cases q : t = 0
    · refine ⟨k - 1, by omega, by have := P.pos; omega, go _ ?_⟩
      rw [show k - 1 + 1 = k by have := P.pos; omega, P.back, ← h3, q]; rfl
    · refine ⟨t - 1, by omega, by omega, go _ ?_⟩
      rw [show t - 1 + 1 = t by omega, h3]
  rcases seg_val' P (i := 0) (m := k) (by omega) u v with ⟨h1, h2⟩ | ⟨h1, h2⟩ <;> rcases seg_val' P (i := 0) (m := k) (by omega) v (S.next u v) with ⟨h3, h4⟩ | ⟨h3, h4⟩
  · omega
  · exact absurd (fw h2) h4
  · exact absurd (bw h4) h2
  · omega

theorem conn_back {S : Plan} {bad : Nat → Prop} {a x : Nat} (h : Conn S bad a x) : x = a ∨ (∃ y, y ∈ S.near a) := by
  induction h with
  | refl => exact .inl rfl
  | @step b c hb hc nc ih =>
    rcases ih with rfl | ih
    · exact .inr ⟨_, hc⟩
    · exact .inr ih

/-- all ways have it alike -/
theorem El_all {S : Plan} (W : Whole S) {c : Nat → Nat → Int} (C : Circ S c) (hc : ∀ v, ∀ u ∈ S.near v, c u v = c v (S.next u v)) :
    ∀ a b a' b', b ∈ S.near a → b' ∈ S.near a' → El S c a b = El S c a' b' := by
  have G := W.toGood
  have at_ : ∀ v, ∀ u ∈ S.near v, ∀ w ∈ S.near v, El S c v u = El S c v w := fun v => El_at G C (W.two v) (hc v)
  have fix : ∀ x, Conn S (fun _ => False) 0 x → ∀ y0 ∈ S.near 0, ∀ y ∈ S.near x, El S c x y = El S c 0 y0 := by
    intro x hx
    induction hx with
    | refl => exact fun y0 h0 y hy => at_ 0 y hy y0 h0
    | @step b x hb hx nx ih =>
      intro y0 h0 y hy
      have hb' := (near_symm G).1 hx
      rw [at_ x y hy b hb', El_rev S c (Ne.symm (near_ne G hb')), ih y0 h0 x hx]
  intro a b a' b' h h'
  have ca := W.conn a (near_ub G h).2
  have ca' := W.conn a' (near_ub G h').2
  have e0 : ∃ y0, y0 ∈ S.near 0 := by
    rcases conn_back ca with rfl | h0
    · exact ⟨_, h⟩
    · exact h0
  obtain ⟨y0, h0⟩ := e0
  rw [fix a ca y0 h0 b h, fix a' ca' y0 h0 b' h']

/-- the right edge, down: nothing is right of it -/
theorem right_edge {S : Plan} (F : Framed S) {i j : Nat} (hj : i ∈ S.near j) (hij : i < j) (xi : (S.pt i).x = S.w) (xj : (S.pt j).x = S.w) (c : Nat → Nat → Int) : Wd S c j i = 0 := by
  have G := F.toGood
  have u := near_ub G hj
  rw [Wd, if_neg (by omega), ln_gt hij, Wr, Int.add_zero]
  refine (tot_congr fun m hm => ?_).trans (tot_zero S.lines)
  rw [if_neg]
  rintro ⟨h1, h2, h3⟩
  replace h1 : m.1 ≤ i := h1
  replace h2 : i < m.2 := h2
  have lm := G.lt m hm
  have um := G.ub m hm
  have w1 := G.inw m.1 (by omega)
  have w2 := G.inw m.2 um
  have flat : ∀ p : Pt, p.x ≤ S.w → 0 ≤ turn (S.pt i) (S.pt j) p := by
    intro p hp
    have yy := hg_y G (Nat.le_of_lt hij) u.2
    have e : turn (S.pt i) (S.pt j) p = (((S.pt j).y : Int) - (S.pt i).y) * ((S.w : Int) - p.x) := by
      simp only [turn, dx, dy, xi, xj]; grind
    rw [e]; exact pp0 (by omega) (by omega)
  rcases Nat.lt_trichotomy i m.1 with h | h | h
  · rw [Rt_lo (l := (i, j)) h] at h3
    have := flat _ w1
    replace h3 : turn (S.pt i) (S.pt j) (S.pt m.1) < 0 := of_decide_eq_true h3
    omega
  · have := flat _ w2
    simp [Rt, h] at h3
    simp only [side] at h3
    rw [h] at this; omega
  · rw [Rt_lo' (m := (i, j)) h] at h3
    replace h3 : 0 < turn (S.pt m.1) (S.pt m.2) (S.pt i) := of_decide_eq_true h3
    have y1 : (S.pt m.1).y ≤ (S.pt i).y := hg_y G h1 (by omega)
    have y2 := hg_y G (Nat.le_of_lt h2) um
    have e : turn (S.pt m.1) (S.pt m.2) (S.pt i) = - (((S.w : Int) - (S.pt m.1).x) * (((S.pt m.2).y : Int) - (S.pt i).y) + ((S.w : Int) - (S.pt m.2).x) * (((S.pt i).y : Int) - (S.pt m.1).y)) := by
      simp only [turn, dx, dy, xi]; grind
    have p1 := pp0 (a := (S.w : Int) - (S.pt m.1).x) (b := ((S.pt m.2).y : Int) - (S.pt i).y) (by omega) (by omega)
    have p2 := pp0 (a := (S.w : Int) - (S.pt m.2).x) (b := ((S.pt i).y : Int) - (S.pt m.1).y) (by omega) (by omega)
    omega

def AllOut (S : Plan) (e : Nat × Nat) : Prop := ∀ t, Out S (it S t e).1 (it S t e).2
theorem all_out {S : Plan} (F : Framed S) {e : Nat × Nat} {k : Nat} (P : Per S e k) {t : Nat} (ht : t ≤ k) (h : Out S (it S t e).1 (it S t e).2) : AllOut S e := by
  have go : ∀ s, Out S (it S (t + s) e).1 (it S (t + s) e).2 := by
    intro s
    induction s with
    | zero => exact h
    | succ s ih => rw [← Nat.add_assoc, it_succ]; exact out_next F ih
  have go0 : ∀ s, Out S (it S s e).1 (it S s e).2 := by
    intro s
    have := go (s + k - t)
    rw [show t + (s + k - t) = s + k by omega, it_add, P.back] at this
    exact this
  exact go0

theorem right_ex {S : Plan} (F : Framed S) : ∃ i j, i ∈ S.near j ∧ i < j ∧ (S.pt i).x = S.w ∧ (S.pt j).x = S.w := by
  obtain ⟨v, h1, h2, h3⟩ := F.top
  obtain ⟨w, hw, w1, w2⟩ := F.fr v h1 h2 (by have := F.hpos; omega)
  exact ⟨w, v, hw, w1, w2, h2⟩

/-- **of a row that isn't the frame's outside: round a way it goes once where the way is its own, else not** -/
theorem row_wd {S : Plan} (F : Framed S) {e : Nat × Nat} (h : Da S e) {k : Nat} (P : Per S e k) (no : ¬ AllOut S e) {a b : Nat} (hb : b ∈ S.near a) :
    Wd S (seg (fa S e) 0 k) a b = seg (fa S e) 0 k a b := by
  obtain ⟨i, j, hj, hij, xi, xj⟩ := right_ex F
  have G := F.toGood
  have C : Circ S (seg (fa S e) 0 k) := circ_seg G (fa_near F.toWhole h) (by rw [Nat.zero_add]; exact fa_back P)
  have A := El_all F.toWhole C (row_next F.toWhole h P) a b j i hb hj
  have c0 : seg (fa S e) 0 k j i = 0 := by
    rcases seg_val' P (i := 0) (m := k) (by omega) j i with ⟨_, t, h1, h2, h3⟩ | ⟨h1, _⟩
    · exfalso
      refine no (all_out F P (t := t) (by omega) ?_)
      rw [h3]
      exact ⟨hj, .inr (.inr (.inl ⟨xj, xi, hij⟩))⟩
    · exact h1
  have w0 := right_edge F hj hij xi xj (seg (fa S e) 0 k)
  simp only [El] at A
  omega

theorem hits_ex {S : Plan} (F : Framed S) {z : Pt} (zw : z.x < S.w) (zh : z.y < S.h) : ∃ m ∈ S.lines, hits S z m = true := by
  have G := F.toGood
  obtain ⟨v0, h1, h2, h3⟩ := F.top
  obtain ⟨v, ⟨v1, v2, v3⟩, hl⟩ := least (P := fun v => v < S.pts.length ∧ (S.pt v).x = S.w ∧ z.y < (S.pt v).y) v0 ⟨h1, h2, by omega⟩
  obtain ⟨w, hw, w1, w2⟩ := F.fr v v1 v2 (by omega)
  have l := (mem_near G).1 hw
  rw [ln_gt w1] at l
  have n : ¬ z.y < (S.pt w).y := fun h => hl w w1 ⟨by omega, w2, h⟩
  refine ⟨_, l, ?_⟩
  have e : turn (S.pt w) (S.pt v) z = (((S.pt v).y : Int) - (S.pt w).y) * ((S.w : Int) - z.x) := by
    simp only [turn, dx, dy, w2, v2]; grind
  have : 0 < turn (S.pt w) (S.pt v) z := by rw [e]; exact pp (by omega) (by omega)
  simp only [hits, Bool.and_eq_true, decide_eq_true_eq]
  exact ⟨by omega, v3, this⟩

/-- the way that a mark has to its right -/
theorem mark_way {S : Plan} (F : Framed S) {z : Pt} (cl : clear S z = true) : ∃ a b, b ∈ S.near a ∧ ∀ e k, Da S e → Per S e k → ¬ AllOut S e →
    (tot (sg S z) (cp (orb S e)) = 1 ∧ ∃ t, t < k ∧ it S t e = (a, b)) ∨ (tot (sg S z) (cp (orb S e)) = 0 ∧ ¬ ∃ t, t < k ∧ it S t e = (a, b)) := by
  have G := F.toGood
  simp only [clear, Bool.and_eq_true, decide_eq_true_eq, Bool.not_eq_true'] at cl
  obtain ⟨m, hm, hh, hz⟩ := mark_edge G cl.2.2.2.2 (hits_ex F cl.2.1 cl.2.2.2.1)
  have hn : m.2 ∈ S.near m.1 := by rw [mem_near G, ln_lt (G.lt m hm)]; exact hm
  refine ⟨m.1, m.2, hn, fun e k h P no => ?_⟩
  have C : Circ S (seg (fa S e) 0 k) := circ_seg G (fa_near F.toWhole h) (by rw [Nat.zero_add]; exact fa_back P)
  rw [Zs_orb F.toWhole h P, hz _ C, row_wd F h P no hn]
  rcases seg_val' P (i := 0) (m := k) (by omega) m.1 m.2 with ⟨h1, t, _, h3, h4⟩ | ⟨h1, h2⟩
  · left; exact ⟨h1, t, by omega, h4⟩
  · right
    refine ⟨h1, ?_⟩
    rintro ⟨t, h3, h4⟩
    exact h2 ⟨t, by omega, by omega, h4⟩

theorem area_eq (S : Plan) (l : List Nat) : twiceArea S l = tot (fun x => ((S.pt x.1).x : Int) * ((S.pt x.2).y : Int) - ((S.pt x.2).x : Int) * ((S.pt x.1).y : Int)) (cp l) := by
  rw [twiceArea, ← cp]
  induction cp l with
  | nil => rfl
  | cons x r ih => rw [List.map_cons, List.foldr_cons, ih, tot]
theorem out_area {S : Plan} (F : Framed S) {e : Nat × Nat} {k : Nat} (P : Per S e k) (h : AllOut S e) : twiceArea S (orb S e) ≤ 0 := by
  have G := F.toGood
  have neg : ∀ (l : List (Nat × Nat)), (∀ x ∈ l, Out S x.1 x.2) → tot (fun x => ((S.pt x.1).x : Int) * ((S.pt x.2).y : Int) - ((S.pt x.2).x : Int) * ((S.pt x.1).y : Int)) l ≤ 0 := by
    intro l
    induction l with
    | nil => intro _; exact Int.le_refl _
    | cons x r ih =>
      intro hh
      have i := ih (fun y hy => hh y (by simp [hy]))
      have o := hh x (by simp)
      rw [tot]
      have : ((S.pt x.1).x : Int) * ((S.pt x.2).y : Int) - ((S.pt x.2).x : Int) * ((S.pt x.1).y : Int) ≤ 0 := by
        obtain ⟨hn, o⟩ := o
        have ub := near_ub G hn
        rcases o with ⟨h1, h2, h3⟩ | ⟨h1, h2, h3⟩ | ⟨h1, h2, h3⟩ | ⟨h1, h2, h3⟩
        · rw [h1, h2]; simp
        · rw [h1, h2, ← Int.sub_mul]
          have := lex G h3 ub.1
          exact Int.mul_nonpos_of_nonpos_of_nonneg (by omega) (by omega)
        · rw [h1, h2, ← Int.mul_sub]
          have := lex G h3 ub.2
          exact Int.mul_nonpos_of_nonneg_of_nonpos (by omega) (by omega)
        · rw [h1, h2]; simp
      omega
  rw [area_eq]
  refine neg _ fun x hx => ?_
  rw [cp_orb P] at hx
  obtain ⟨t, _, rfl⟩ := List.mem_map.1 hx
  exact h t

end Geo
end PGeo9

section PGeo10
open GlaPlan
namespace Geo

theorem nodup_eraseDups {α : Type} [BEq α] [LawfulBEq α] : ∀ (n : Nat) (l : List α), l.length ≤ n → l.eraseDups.Nodup
  | _, [], _ => by simp
  | 0, x :: r, h => by simp at h
  | n + 1, x :: r, h => by
    rw [List.eraseDups_cons, List.nodup_cons]
    constructor
    · rw [List.mem_eraseDups]; simp
    · refine nodup_eraseDups n _ ?_
      have := List.length_filter_le (fun b => !b == x) r
      simp only [List.length_cons] at h; omega
theorem tot_perm {α : Type} (f : α → Int) {l m : List α} (h : l.Perm m) : tot f l = tot f m := by
  induction h with
  | nil => rfl
  | cons x _ ih => rw [tot, tot, ih]
  | swap x y l => simp only [tot]; omega
  | trans _ _ h1 h2 => exact h1.trans h2

/-- x is one of the ways of the row of e -/
def InO (S : Plan) (e x : Nat × Nat) : Prop := ∃ t, it S t e = x

theorem it_mod {S : Plan} {e : Nat × Nat} {k : Nat} (P : Per S e k) : ∀ n t, t ≤ n → ∃ s, s < k ∧ it S s e = it S t e
  | 0, t, h => ⟨0, P.pos, by rw [show t = 0 by omega]⟩
  | n + 1, t, h => by
    by_cases q : t < k
    · exact ⟨t, q, rfl⟩
    · obtain ⟨s, h1, h2⟩ := it_mod P n (t - k) (by have := P.pos; omega)
      refine ⟨s, h1, h2.trans ?_⟩
      have : it S (t - k + k) e = it S (t - k) (it S k e) := it_add S k e (t - k)
      rw [P.back, show t - k + k = t by omega] at this
      exact this.symm
theorem ino_lt {S : Plan} {e x : Nat × Nat} {k : Nat} (P : Per S e k) : InO S e x ↔ ∃ t, t < k ∧ it S t e = x := by
  constructor
  · rintro ⟨t, h⟩
    obtain ⟨s, h1, h2⟩ := it_mod P t t (Nat.le_refl _)
    exact ⟨s, h1, h2.trans h⟩
  · rintro ⟨t, _, h⟩; exact ⟨t, h⟩
theorem ino_refl (S : Plan) (e : Nat × Nat) : InO S e e := ⟨0, rfl⟩
theorem ino_trans {S : Plan} {a b c : Nat × Nat} (h1 : InO S a b) (h2 : InO S b c) : InO S a c := by
  obtain ⟨t, rfl⟩ := h1
  obtain ⟨s, rfl⟩ := h2
  exact ⟨s + t, it_add S t a s⟩
theorem ino_symm {S : Plan} (G : Good S) (T : Two S) {a b : Nat × Nat} (h : Da S a) (h1 : InO S a b) : InO S b a := by
  obtain ⟨k, P⟩ := per_ex G T h
  obtain ⟨t, ht, rfl⟩ := (ino_lt P).1 h1
  refine ⟨k - t, ?_⟩
  rw [← it_add, show k - t + t = k by omega, P.back]
theorem ino_da {S : Plan} (G : Good S) (T : Two S) {a b : Nat × Nat} (h : Da S a) (h1 : InO S a b) : Da S b := by
  obtain ⟨t, rfl⟩ := h1
  exact it_da G T h t

/-- two rows with a way in common have as many -/
theorem per_shift {S : Plan} (G : Good S) (T : Two S) {e : Nat × Nat} {k : Nat} (h : Da S e) (P : Per S e k) (i : Nat) : Per S (it S i e) k := by
  refine ⟨P.pos, P.le, ?_, ?_⟩
  · rw [← it_add, Nat.add_comm, it_add, P.back]
  · intro a b hab hb q
    refine P.dist a b hab hb ?_
    refine it_inj G T (it_da G T h _) (it_da G T h _) i ?_
    rw [← it_add, ← it_add, Nat.add_comm i a, Nat.add_comm i b, it_add, it_add]; exact q
theorem cp_perm {S : Plan} (G : Good S) (T : Two S) {e : Nat × Nat} {k : Nat} (h : Da S e) (P : Per S e k) (i : Nat) : (cp (orb S (it S i e))).Perm (cp (orb S e)) := by
  have Q := per_shift G T h P i
  rw [cp_orb P, cp_orb Q]
  have nd : ∀ {e}, Per S e k → ((List.range k).map (fun i => it S i e)).Nodup := fun P => nodup_range_map P.dist
  rw [List.perm_ext_iff_of_nodup (nd Q) (nd P)]
  have q : ∀ e, Per S e k → ∀ x, x ∈ (List.range k).map (fun i => it S i e) ↔ InO S e x := by
    intro e P x
    rw [ino_lt P, List.mem_map]
    constructor
    · rintro ⟨t, h1, h2⟩; exact ⟨t, List.mem_range.1 h1, h2⟩
    · rintro ⟨t, h1, h2⟩; exact ⟨t, List.mem_range.2 h1, h2⟩
  intro x
  rw [q _ Q, q _ P]
  constructor
  · intro h1; exact ino_trans ⟨i, rfl⟩ h1
  · intro h1; exact ino_trans (ino_symm G T h ⟨i, rfl⟩) h1

/-! ## from the least number on -/
theorem foldl_min_spec : ∀ (r : List Nat) (a : Nat), r.foldl min a ∈ a :: r ∧ ∀ x ∈ a :: r, r.foldl min a ≤ x
  | [], a => by simp
  | b :: r, a => by
    rw [List.foldl_cons]
    obtain ⟨h1, h2⟩ := foldl_min_spec r (min a b)
    constructor
    · rcases List.mem_cons.1 h1 with h | h
      · rw [h]
        rcases Nat.le_total a b with q | q
        · rw [Nat.min_eq_left q]; simp
        · rw [Nat.min_eq_right q]; simp
      · simp [h]
    · intro x hx
      have hm := h2 (min a b) (by simp)
      rcases List.mem_cons.1 hx with h | h
      · subst h; omega
      · rcases List.mem_cons.1 h with h | h
        · subst h; omega
        · exact h2 x (by simp [h])

theorem rot_range {f : Nat → Nat} {k : Nat} (hp : ∀ t, f (t + k) = f t) {i : Nat} (hi : i < k) : ((List.range k).map f).drop i ++ ((List.range k).map f).take i = (List.range k).map (fun t => f (i + t)) := by
  refine List.ext_getElem ?_ ?_
  · simp; omega
  · intro n h1 h2
    simp only [List.length_map, List.length_range] at h2
    by_cases q : n < k - i
    · rw [List.getElem_append_left (by simp; omega)]
      simp
    · rw [List.getElem_append_right (by simp; omega)]
      simp
      have := hp (n - (k - i))
      rw [← this]; congr 1; omega

/-- the way of a row from whose start the least number is first -/
def Head (S : Plan) (d : Nat × Nat) : Prop := ∀ t, d.1 ≤ fa S d t

theorem fromLeast_orb {S : Plan} (G : Good S) (T : Two S) {e : Nat × Nat} (h : Da S e) : ∃ d, InO S e d ∧ Head S d ∧ fromLeast (orb S e) = orb S d := by
  obtain ⟨k, P⟩ := per_ex G T h
  have hk := P.pos
  have ho := orb_eq P
  have e1 : orb S e = fa S e 0 :: (List.range (k - 1)).map (fun t => fa S e (t + 1)) := by
    rw [ho, show k = (k - 1) + 1 by omega, List.range_succ_eq_map, List.map_cons, List.map_map]; rfl
  obtain ⟨m1, m2⟩ := foldl_min_spec ((List.range (k - 1)).map (fun t => fa S e (t + 1))) (fa S e 0)
  rw [← e1] at m1 m2
  generalize hm : ((List.range (k - 1)).map (fun t => fa S e (t + 1))).foldl min (fa S e 0) = m at *
  have hidx := List.idxOf_lt_length_iff.2 m1
  have hlen : (orb S e).length = k := by rw [ho]; simp
  have hv := List.getElem_idxOf hidx
  have hfl : fromLeast (orb S e) = (orb S e).drop ((orb S e).idxOf m) ++ (orb S e).take ((orb S e).idxOf m) := by
    conv => lhs; rw [e1, fromLeast]
    simp only [hm, ← e1]
  generalize (orb S e).idxOf m = i at *
  have hi : i < k := by rw [← hlen]; exact hidx
  have Q := per_shift G T h P i
  have hper : ∀ t, fa S e (t + k) = fa S e t := by
    intro t
    rw [fa, it_add, P.back]; rfl
  refine ⟨it S i e, ⟨i, rfl⟩, ?_, ?_⟩
  · intro t
    have : fa S (it S i e) t = fa S e (t + i) := by rw [fa, ← it_add]; rfl
    rw [this]
    have hm0 : (it S i e).1 = m := by
      rw [← hv]
      simp only [ho, List.getElem_map, List.getElem_range]; rfl
    rw [hm0]
    obtain ⟨s, h1, h2⟩ := it_mod P (t + i) (t + i) (Nat.le_refl _)
    rw [fa, ← h2]
    refine m2 _ ?_
    rw [ho]; exact List.mem_map.2 ⟨s, List.mem_range.2 h1, rfl⟩
  · rw [hfl, ho, rot_range hper hi, orb_eq Q]
    refine List.map_congr_left fun t _ => ?_
    rw [fa, fa, ← it_add, Nat.add_comm]

theorem head_uniq {S : Plan} (W : Whole S) {d d' : Nat × Nat} (h : Da S d) (h1 : InO S d d') (H : Head S d) (H' : Head S d') : d = d' := by
  have G := W.toGood
  have T := W.two
  obtain ⟨k, P⟩ := per_ex G T h
  obtain ⟨t, ht, e⟩ := (ino_lt P).1 h1
  have a1 := H t
  obtain ⟨s, e'⟩ := ino_symm G T h h1
  have a2 := H' s
  have b1 : fa S d t = d'.1 := by rw [fa, e]
  have b2 : fa S d' s = d.1 := by rw [fa, e']
  have c : fa S d 0 = fa S d t := by
    show d.1 = fa S d t
    omega
  by_cases q : t = 0
  · subst q; exact e
  · exact absurd c (simple W h P 0 t (by omega) ht)

theorem orb_inj {S : Plan} (G : Good S) (T : Two S) {d d' : Nat × Nat} (h : Da S d) (h' : Da S d') (q : orb S d = orb S d') : d = d' := by
  obtain ⟨k, P⟩ := per_ex G T h
  obtain ⟨k', P'⟩ := per_ex G T h'
  have c := congrArg cp q
  rw [cp_orb P, cp_orb P'] at c
  have l := congrArg List.length c
  simp only [List.length_map, List.length_range] at l
  subst l
  have hk := P.pos
  have := congrArg (fun l => l[0]?) c
  simp only [List.getElem?_map, List.getElem?_range hk] at this
  exact Option.some.inj this

def canon (S : Plan) (e : Nat × Nat) : List Nat := fromLeast (orb S e)

/-- **the canonical rows tell rows apart** -/
theorem canon_iff {S : Plan} (W : Whole S) {e e' : Nat × Nat} (h : Da S e) (h' : Da S e') : canon S e = canon S e' ↔ InO S e e' := by
  have G := W.toGood
  have T := W.two
  obtain ⟨d, h1, H1, c1⟩ := fromLeast_orb G T h
  obtain ⟨d', h2, H2, c2⟩ := fromLeast_orb G T h'
  rw [canon, canon, c1, c2]
  constructor
  · intro q
    have := orb_inj G T (ino_da G T h h1) (ino_da G T h' h2) q
    subst this
    exact ino_trans h1 (ino_symm G T h' h2)
  · intro q
    rw [head_uniq W (ino_da G T h h1) (ino_trans (ino_symm G T h h1) (ino_trans q h2)) H1 H2]
theorem canon_cp {S : Plan} (G : Good S) (T : Two S) {e : Nat × Nat} (h : Da S e) : (cp (canon S e)).Perm (cp (orb S e)) := by
  obtain ⟨d, ⟨i, rfl⟩, _, c1⟩ := fromLeast_orb G T h
  obtain ⟨k, P⟩ := per_ex G T h
  rw [canon, c1]; exact cp_perm G T h P i
theorem canon_area {S : Plan} (G : Good S) (T : Two S) {e : Nat × Nat} (h : Da S e) : twiceArea S (canon S e) = twiceArea S (orb S e) := by
  rw [area_eq, area_eq, tot_perm _ (canon_cp G T h)]
theorem orb_area {S : Plan} (W : Whole S) {e e' : Nat × Nat} (h : Da S e) (h1 : InO S e e') : twiceArea S (orb S e') = twiceArea S (orb S e) := by
  have G := W.toGood
  have T := W.two
  rw [← canon_area G T h, ← canon_area G T (ino_da G T h h1), (canon_iff W h (ino_da G T h h1)).2 h1]
theorem canon_inside {S : Plan} (G : Good S) (T : Two S) {e : Nat × Nat} (h : Da S e) (z : Pt) : insideOf S (canon S e) z = insideOf S (orb S e) z := by
  rw [Bool.eq_iff_iff, inside_odd, inside_odd, tot_perm _ (canon_cp G T h)]

/-! ## all outlines -/
theorem mem_outlines {S : Plan} (W : Whole S) {l : List Nat} : l ∈ S.outlines ↔ ∃ e, Da S e ∧ l = canon S e ∧ 0 < twiceArea S (orb S e) := by
  have G := W.toGood
  have T := W.two
  rw [Plan.outlines, List.mem_filter, List.mem_eraseDups, List.mem_map]
  constructor
  · rintro ⟨⟨e, h1, rfl⟩, h2⟩
    have he := (mem_ways G).1 h1
    refine ⟨e, he, rfl, ?_⟩
    rw [← canon_area G T he]; exact of_decide_eq_true h2
  · rintro ⟨e, he, rfl, h⟩
    refine ⟨⟨e, (mem_ways G).2 he, rfl⟩, ?_⟩
    rw [← canon_area G T he] at h
    exact decide_eq_true h
theorem nodup_outlines (S : Plan) : S.outlines.Nodup := by
  rw [Plan.outlines]
  exact List.Pairwise.filter _ (nodup_eraseDups _ _ (Nat.le_refl _))

/-- which row a mark is in -/
theorem mark_in {S : Plan} (F : Framed S) {z : Pt} (cl : clear S z = true) : ∃ x, Da S x ∧ ∀ e, Da S e → 0 < twiceArea S (orb S e) →
    (tot (sg S z) (cp (orb S e)) = 1 ∧ InO S e x) ∨ (tot (sg S z) (cp (orb S e)) = 0 ∧ ¬ InO S e x) := by
  obtain ⟨a, b, hn, hh⟩ := mark_way F cl
  refine ⟨(a, b), hn, fun e he ha => ?_⟩
  obtain ⟨k, P⟩ := per_ex F.toGood F.two he
  have no : ¬ AllOut S e := fun o => by have := out_area F P o; omega
  have := hh e k he P no
  rw [ino_lt P]; exact this

theorem find_only {α : Type} [DecidableEq α] (p : α → Bool) (c : α) : ∀ (l : List α), (∀ x ∈ l, p x = true ↔ x = c) → l.find? p = if c ∈ l then some c else none
  | [], _ => rfl
  | x :: r, h => by
    have hx := h x (by simp)
    have ih := find_only p c r (fun y hy => h y (by simp [hy]))
    by_cases e : p x = true
    · have := hx.1 e
      subst this
      rw [List.find?_cons_of_pos e]; simp
    · rw [List.find?_cons_of_neg e, ih]
      have : c ≠ x := fun q => e (hx.2 q.symm)
      simp [this]

theorem among_eq {S : Plan} (F : Framed S) {z : Pt} (cl : clear S z = true) {x : Nat × Nat} (hx : Da S x)
    (H : ∀ e, Da S e → 0 < twiceArea S (orb S e) → (tot (sg S z) (cp (orb S e)) = 1 ∧ InO S e x) ∨ (tot (sg S z) (cp (orb S e)) = 0 ∧ ¬ InO S e x)) :
    S.among S.outlines z = if 0 < twiceArea S (orb S x) then some (canon S x) else none := by
  have W := F.toWhole
  have G := F.toGood
  have T := F.two
  rw [Plan.among, if_pos cl, find_only _ (canon S x)]
  · by_cases h : 0 < twiceArea S (orb S x)
    · rw [if_pos h, if_pos ((mem_outlines W).2 ⟨x, hx, rfl, h⟩)]
    · rw [if_neg h, if_neg]
      intro hm
      obtain ⟨e, he, q, ha⟩ := (mem_outlines W).1 hm
      have := (canon_iff W hx he).1 q
      rw [orb_area W hx this] at ha; exact h ha
  · intro l hl
    obtain ⟨e, he, rfl, ha⟩ := (mem_outlines W).1 hl
    rw [canon_inside G T he, inside_odd, canon_iff W he hx]
    rcases H e he ha with ⟨h1, h2⟩ | ⟨h1, h2⟩
    · rw [h1]; exact ⟨fun _ => h2, fun _ => by decide⟩
    · rw [h1]; exact ⟨fun h => absurd h (by decide), fun h => absurd h h2⟩

end Geo
end PGeo10

section PGeo11
open GlaPlan
namespace Geo

/-! ## the leftmost -/
def moreLeft (S : Plan) (u v p q : Nat) : Bool :=
  if (decide (turn (S.pt u) (S.pt v) (S.pt p) < 0)) != (decide (turn (S.pt u) (S.pt v) (S.pt q) < 0)) then decide (turn (S.pt u) (S.pt v) (S.pt q) < 0)
  else decide (0 < turn (S.pt v) (S.pt q) (S.pt p))
def lmost (S : Plan) (u v : Nat) (best : Option Nat) (l : List Nat) : Option Nat :=
  l.foldl (fun best t => if t = u then best else match best with
    | none => some t
    | some b => if moreLeft S u v t b = true then some t else best) best

theorem moreLeft_eq {S : Plan} (G : Good S) {u v p q : Nat} (hu : u ∈ S.near v) (hp : p ∈ S.near v) (hq : q ∈ S.near v) (pu : p ≠ u) (qu : q ≠ u) :
    moreLeft S u v p q = sooner (dir S v u) (dir S v p) (dir S v q) := by
  have k1 := half_of S (hv_ne G hu) (cr_ne G hu hp (Ne.symm pu))
  have k2 := half_of S (hv_ne G hu) (cr_ne G hu hq (Ne.symm qu))
  have n1 := cr_ne G hu hp (Ne.symm pu)
  have n2 := cr_ne G hu hq (Ne.symm qu)
  have i := cr_three S (dir S v u) (dir S v p) (dir S v q)
  have e1 : turn (S.pt u) (S.pt v) (S.pt p) = - cr (dir S v u) (dir S v p) := by rw [cr_turn]; exact turn_swap _ _ _
  have e2 : turn (S.pt u) (S.pt v) (S.pt q) = - cr (dir S v u) (dir S v q) := by rw [cr_turn]; exact turn_swap _ _ _
  have e3 : turn (S.pt v) (S.pt q) (S.pt p) = - cr (dir S v p) (dir S v q) := by rw [cr_turn]; exact turn_swap2 _ _ _
  have es : sooner (dir S v u) (dir S v p) (dir S v q) = true ↔ (half (dir S v u) (dir S v p) < half (dir S v u) (dir S v q) ∨ (half (dir S v u) (dir S v p) = half (dir S v u) (dir S v q) ∧ cr (dir S v p) (dir S v q) < 0)) := by
    simp only [sooner, Bool.or_eq_true, Bool.and_eq_true, decide_eq_true_eq, beq_iff_eq, cr]
  rw [Bool.eq_iff_iff, es, moreLeft, e1, e2, e3]
  have hu' := hv_ne G hu
  have hp' := hv_ne G hp
  have hq' := hv_ne G hq
  generalize half (dir S v u) (dir S v p) = A at *
  generalize half (dir S v u) (dir S v q) = B at *
  generalize cr (dir S v u) (dir S v p) = a at *
  generalize cr (dir S v u) (dir S v q) = b at *
  generalize cr (dir S v p) (dir S v q) = t at *
  generalize hv S (dir S v u) = h1 at *
  generalize hv S (dir S v p) = h2 at *
  generalize hv S (dir S v q) = h3 at *
  rcases k1 with ⟨k1, l1⟩ | ⟨k1, l1⟩ | ⟨k1, l1⟩ <;> rcases k2 with ⟨k2, l2⟩ | ⟨k2, l2⟩ | ⟨k2, l2⟩ <;> subst l1 l2
  · rw [decide_eq_false (show ¬ (-a < 0) by omega), decide_eq_false (show ¬ (-b < 0) by omega)]
    simp
  · rw [decide_eq_false (show ¬ (-a < 0) by omega), decide_eq_false (show ¬ (-b < 0) by omega)]
    simp
    rw [k2, Int.zero_mul] at i
    rcases n2 k2 with ⟨x, y⟩ | ⟨x, y⟩
    · have := nn k1 y
      exact neg_l (b := h1) (by omega) x
    · have := np k1 y
      have := pos_l (a := - t) (b := - h1) (by rw [Int.neg_mul_neg]; omega) (by omega)
      omega
  · rw [decide_eq_false (show ¬ (-a < 0) by omega), decide_eq_true (show (-b < 0) by omega)]
    simp
  · rw [decide_eq_false (show ¬ (-a < 0) by omega), decide_eq_false (show ¬ (-b < 0) by omega)]
    simp
    rw [k1, Int.zero_mul] at i
    rcases n1 k1 with ⟨x, y⟩ | ⟨x, y⟩
    · have := nn k2 y
      have := pos_l (a := t) (b := h1) (by omega) x
      omega
    · have := np k2 y
      have := neg_l (a := - t) (b := - h1) (by rw [Int.neg_mul_neg]; omega) (by omega)
      omega
  · rw [decide_eq_false (show ¬ (-a < 0) by omega), decide_eq_false (show ¬ (-b < 0) by omega)]
    simp
  · rw [decide_eq_false (show ¬ (-a < 0) by omega), decide_eq_true (show (-b < 0) by omega)]
    simp
  · rw [decide_eq_true (show (-a < 0) by omega), decide_eq_false (show ¬ (-b < 0) by omega)]
    simp
  · rw [decide_eq_true (show (-a < 0) by omega), decide_eq_false (show ¬ (-b < 0) by omega)]
    simp
  · rw [decide_eq_true (show (-a < 0) by omega), decide_eq_true (show (-b < 0) by omega)]
    simp

theorem lmost_fold (S : Plan) (u v : Nat) : ∀ (l : List Nat) (b : Nat), lmost S u v (some b) l = some ((l.filter (fun t => t != u)).foldl (fun a t => if moreLeft S u v t a = true then t else a) b)
  | [], b => rfl
  | t :: r, b => by
    rw [lmost, List.foldl_cons]
    by_cases e : t = u
    · rw [if_pos e, List.filter_cons_of_neg (by simp [e])]
      exact lmost_fold S u v r b
    · rw [if_neg e, List.filter_cons_of_pos (by simp [e]), List.foldl_cons]
      by_cases q : moreLeft S u v t b = true
      · simp only [q, if_true]; exact lmost_fold S u v r t
      · simp only [q]; exact lmost_fold S u v r b
theorem lmost_none (S : Plan) (u v : Nat) : ∀ (l : List Nat), lmost S u v none l = (match l.filter (fun t => t != u) with
  | [] => none
  | k :: r => some (r.foldl (fun a t => if moreLeft S u v t a = true then t else a) k))
  | [] => rfl
  | t :: r => by
    rw [lmost, List.foldl_cons]
    by_cases e : t = u
    · rw [if_pos e, List.filter_cons_of_neg (by simp [e])]
      exact lmost_none S u v r
    · rw [if_neg e, List.filter_cons_of_pos (by simp [e])]
      exact lmost_fold S u v r t

theorem lmost_next {S : Plan} (G : Good S) {u v : Nat} (hu : u ∈ S.near v) (ho : ∃ x ∈ S.near v, x ≠ u) : lmost S u v none (S.near v) = some (S.next u v) := by
  have M : ∀ x ∈ (S.near v).filter (fun t => t != u), x ∈ S.near v ∧ x ≠ u := by
    intro x hx
    have := List.mem_filter.1 hx
    exact ⟨this.1, by simpa using this.2⟩
  rw [lmost_none]
  cases e : (S.near v).filter (fun t => t != u) with
  | nil =>
    obtain ⟨x, hx, nx⟩ := ho
    have : x ∈ (S.near v).filter (fun t => t != u) := List.mem_filter.2 ⟨hx, by simpa using nx⟩
    rw [e] at this; exact absurd this (by simp)
  | cons k r =>
    simp only
    rw [e] at M
    have tr : ∀ a b c, (a ∈ S.near v ∧ a ≠ u) → (b ∈ S.near v ∧ b ≠ u) → (c ∈ S.near v ∧ c ≠ u) → moreLeft S u v a b = true → moreLeft S u v b c = true → moreLeft S u v a c = true := by
      rintro a b c ⟨ha, a'⟩ ⟨hb, b'⟩ ⟨hc, c'⟩
      rw [moreLeft_eq G hu ha hb a' b', moreLeft_eq G hu hb hc b' c', moreLeft_eq G hu ha hc a' c', sooner_rk G hu ha hb, sooner_rk G hu hb hc, sooner_rk G hu ha hc]
      rintro ⟨h1, h2⟩ ⟨h3, h4⟩
      refine ⟨h1, ?_⟩
      rcases h2 with h2 | h2
      · exact absurd h2 h3
      · rcases h4 with h4 | h4
        · exact .inl h4
        · right; omega
    have to : ∀ a b, (a ∈ S.near v ∧ a ≠ u) → (b ∈ S.near v ∧ b ≠ u) → a ≠ b → moreLeft S u v a b = true ∨ moreLeft S u v b a = true := by
      rintro a b ⟨ha, a'⟩ ⟨hb, b'⟩ n
      rw [moreLeft_eq G hu ha hb a' b', moreLeft_eq G hu hb ha b' a', sooner_rk G hu ha hb, sooner_rk G hu hb ha]
      have x1 : rk S v a ≠ rk S v b := fun e => n (rk_inj G ha hb e)
      have x2 : rk S v a ≠ rk S v u := fun e => a' (rk_inj G ha hu e)
      have x3 : rk S v b ≠ rk S v u := fun e => b' (rk_inj G hb hu e)
      simp only [a', b', ne_eq, not_false_eq_true, true_and, false_or]
      omega
    have f := fold_min (fun b a => moreLeft S u v b a) (fun x => x ∈ S.near v ∧ x ≠ u) tr to r k (M k (by simp)) (fun x hx => M x (by simp [hx]))
    congr 1
    obtain ⟨⟨f1, f1'⟩, f2, f3⟩ := f
    refine (next_is G hu f1 f1' ?_).symm
    intro y hy n1 n2
    rw [← moreLeft_eq G hu f1 hy f1' n2]
    refine f3 y ?_ n1
    rw [← e]; exact List.mem_filter.2 ⟨hy, by simpa using n2⟩

/-! ## the rows that are begun along the lines -/
def firsts (S : Plan) : List (Nat × Nat) → List (Nat × Nat) → List (Nat × Nat)
  | _, [] => []
  | had, l :: r => if l ∈ had then firsts S had r else l :: firsts S (had ++ cp (orb S l)) r
def paneRows (S : Plan) : List (List Nat) := ((firsts S [] S.lines).map (orb S)).filter fun l => decide (0 < twiceArea S l)

theorem mem_cp_orb {S : Plan} (G : Good S) (T : Two S) {e x : Nat × Nat} (h : Da S e) : x ∈ cp (orb S e) ↔ InO S e x := by
  obtain ⟨k, P⟩ := per_ex G T h
  rw [cp_orb P, ino_lt P, List.mem_map]
  constructor
  · rintro ⟨t, h1, h2⟩; exact ⟨t, List.mem_range.1 h1, h2⟩
  · rintro ⟨t, h1, h2⟩; exact ⟨t, List.mem_range.2 h1, h2⟩

theorem firsts_spec {S : Plan} (G : Good S) (T : Two S) : ∀ (r es had : List (Nat × Nat)), (∀ l ∈ r, Da S l) → (∀ e ∈ es, Da S e) → es.Pairwise (fun a b => ¬ InO S a b) →
    (∀ x, x ∈ had ↔ ∃ e ∈ es, InO S e x) → (∀ e ∈ firsts S had r, e ∈ r) ∧ (es ++ firsts S had r).Pairwise (fun a b => ¬ InO S a b) ∧ ∀ l ∈ r, ∃ e ∈ es ++ firsts S had r, InO S e l
  | [], es, had, _, _, hp, _ => by simp [firsts, hp]
  | l :: r, es, had, hr, he, hp, hh => by
    rw [firsts]
    by_cases q : l ∈ had
    · rw [if_pos q]
      obtain ⟨i1, i2, i3⟩ := firsts_spec G T r es had (fun x hx => hr x (by simp [hx])) he hp hh
      refine ⟨fun e h => by simp [i1 e h], i2, ?_⟩
      intro x hx
      rcases List.mem_cons.1 hx with h | h
      · subst h
        obtain ⟨e, h1, h2⟩ := (hh x).1 q
        exact ⟨e, by simp [h1], h2⟩
      · exact i3 x h
    · rw [if_neg q]
      have hl := hr l (by simp)
      have := firsts_spec G T r (es ++ [l]) (had ++ cp (orb S l)) (fun x hx => hr x (by simp [hx])) (by
        intro e h
        rcases List.mem_append.1 h with h | h
        · exact he e h
        · simp only [List.mem_singleton] at h; rw [h]; exact hl) (by
        rw [List.pairwise_append]
        refine ⟨hp, by simp, ?_⟩
        intro a ha b hb
        simp only [List.mem_singleton] at hb
        rw [hb]
        intro h
        exact q ((hh l).2 ⟨a, ha, h⟩)) (by
        intro x
        rw [List.mem_append, hh, mem_cp_orb G T hl]
        constructor
        · rintro (⟨e, h1, h2⟩ | h)
          · exact ⟨e, by simp [h1], h2⟩
          · exact ⟨l, by simp, h⟩
        · rintro ⟨e, h1, h2⟩
          rcases List.mem_append.1 h1 with h | h
          · exact .inl ⟨e, h, h2⟩
          · simp only [List.mem_singleton] at h; rw [h] at h2; exact .inr h2)
      obtain ⟨i1, i2, i3⟩ := this
      rw [List.append_assoc, List.singleton_append] at i2 i3
      refine ⟨?_, i2, ?_⟩
      · intro e h
        rcases List.mem_cons.1 h with h | h
        · simp [h]
        · simp [i1 e h]
      · intro x hx
        rcases List.mem_cons.1 hx with h | h
        · subst h; exact ⟨x, by simp, ino_refl S x⟩
        · exact i3 x h

/-- every row goes somewhere up -/
theorem row_up {S : Plan} (W : Whole S) {e : Nat × Nat} (h : Da S e) : ∃ l ∈ S.lines, InO S e l := by
  have G := W.toGood
  obtain ⟨k, P⟩ := per_ex G W.two h
  have : ∃ t, fa S e t < fa S e (t + 1) := by
    refine Classical.byContradiction fun hh => ?_
    have dn : ∀ t, fa S e (t + 1) < fa S e t := by
      intro t
      have n := near_ne G (fa_near W h t)
      have : ¬ fa S e t < fa S e (t + 1) := fun h => hh ⟨t, h⟩
      omega
    have dk : ∀ t, fa S e (t + 1) < fa S e 0 := by
      intro t
      induction t with
      | zero => exact dn 0
      | succ t ih => have := dn (t + 1); omega
    have := dk (k - 1)
    rw [show k - 1 + 1 = k by have := P.pos; omega, fa_back P] at this
    omega
  obtain ⟨t, ht⟩ := this
  have := (mem_near G).1 (fa_near W h t)
  rw [ln_lt ht] at this
  exact ⟨_, this, t, rfl⟩

structure Fs (S : Plan) (es : List (Nat × Nat)) : Prop where
  da : ∀ e ∈ es, Da S e
  pw : es.Pairwise (fun a b => ¬ InO S a b)
  all : ∀ x, Da S x → ∃ e ∈ es, InO S e x

theorem firsts_fs {S : Plan} (W : Whole S) : Fs S (firsts S [] S.lines) := by
  have G := W.toGood
  have T := W.two
  have dl : ∀ l ∈ S.lines, Da S l := by
    intro l hl
    show l.2 ∈ S.near l.1
    rw [mem_near G, ln_lt (G.lt l hl)]; exact hl
  obtain ⟨i1, i2, i3⟩ := firsts_spec G T S.lines [] [] dl (by simp) (by simp) (by simp)
  rw [List.nil_append] at i2 i3
  refine ⟨fun e he => dl e (i1 e he), i2, fun x hx => ?_⟩
  obtain ⟨l, hl, h1⟩ := row_up W hx
  obtain ⟨e, he, h2⟩ := i3 l hl
  exact ⟨e, he, ino_trans h2 (ino_symm G T hx h1)⟩

/-- **as many panes** -/
theorem pane_count {S : Plan} (W : Whole S) : (paneRows S).length = S.outlines.length := by
  have G := W.toGood
  have T := W.two
  have F := firsts_fs W
  have e : paneRows S = ((firsts S [] S.lines).filter fun e => decide (0 < twiceArea S (orb S e))).map (orb S) := by
    rw [paneRows, List.filter_map]; rfl
  rw [e, List.length_map]
  have p : (((firsts S [] S.lines).filter fun e => decide (0 < twiceArea S (orb S e))).map (canon S)).Perm S.outlines := by
    rw [List.perm_ext_iff_of_nodup _ (nodup_outlines S)]
    · intro l
      rw [mem_outlines W, List.mem_map]
      constructor
      · rintro ⟨e, h1, rfl⟩
        obtain ⟨h1, h2⟩ := List.mem_filter.1 h1
        exact ⟨e, F.da e h1, rfl, of_decide_eq_true h2⟩
      · rintro ⟨x, hx, rfl, ha⟩
        obtain ⟨e, he, h1⟩ := F.all x hx
        refine ⟨e, List.mem_filter.2 ⟨he, decide_eq_true ?_⟩, (canon_iff W (F.da e he) hx).2 h1⟩
        rw [← orb_area W (F.da e he) h1]; exact ha
    · rw [List.Nodup, List.pairwise_map]
      refine List.Pairwise.imp_of_mem ?_ (List.Pairwise.filter _ F.pw)
      intro a b ha hb n q
      exact n ((canon_iff W (F.da a (List.mem_filter.1 ha).1) (F.da b (List.mem_filter.1 hb).1)).1 q)
  rw [← p.length_eq, List.length_map]

/-- the pane in which a mark is, by number -/
def paneIdx (S : Plan) (z : Pt) : Option Nat := (paneRows S).findIdx? fun l => decide (tot (sg S z) (cp l) ≠ 0)

theorem findIdx_uniq {α : Type} (p : α → Bool) : ∀ (l : List α) (i : Nat), l.findIdx? p = some i → ∃ x, l[i]? = some x ∧ p x = true := by
  intro l i h
  obtain ⟨h1, h2, _⟩ := List.findIdx?_eq_some_iff_getElem.1 h
  exact ⟨l[i], List.getElem?_eq_getElem h1, h2⟩

theorem idx_iff {S : Plan} (F : Framed S) {z z' : Pt} (cl : clear S z = true) (cl' : clear S z' = true) :
    paneIdx S z = paneIdx S z' ↔ S.among S.outlines z = S.among S.outlines z' := by
  have W := F.toWhole
  have G := F.toGood
  have T := F.two
  have Fs := firsts_fs W
  obtain ⟨x, hx, H⟩ := mark_in F cl
  obtain ⟨x', hx', H'⟩ := mark_in F cl'
  rw [among_eq F cl hx H, among_eq F cl' hx' H']
  have ep : paneRows S = ((firsts S [] S.lines).filter fun e => decide (0 < twiceArea S (orb S e))).map (orb S) := by
    rw [paneRows, List.filter_map]; rfl
  -- of one mark
  have one : ∀ {z x}, Da S x → (∀ e, Da S e → 0 < twiceArea S (orb S e) → (tot (sg S z) (cp (orb S e)) = 1 ∧ InO S e x) ∨ (tot (sg S z) (cp (orb S e)) = 0 ∧ ¬ InO S e x)) →
      ((0 < twiceArea S (orb S x) ∧ ∃ i e, paneIdx S z = some i ∧ (((firsts S [] S.lines).filter fun e => decide (0 < twiceArea S (orb S e)))[i]? = some e) ∧ Da S e ∧ InO S e x) ∨ (¬ 0 < twiceArea S (orb S x) ∧ paneIdx S z = none)) := by
    intro z x hx H
    by_cases h : 0 < twiceArea S (orb S x)
    · left
      refine ⟨h, ?_⟩
      obtain ⟨e, he, h1⟩ := Fs.all x hx
      have ha : 0 < twiceArea S (orb S e) := by rw [← orb_area W (Fs.da e he) h1]; exact h
      cases q : paneIdx S z with
      | none =>
        exfalso
        rw [paneIdx, List.findIdx?_eq_none_iff] at q
        have := q (orb S e) (by rw [ep]; exact List.mem_map.2 ⟨e, List.mem_filter.2 ⟨he, decide_eq_true ha⟩, rfl⟩)
        rcases H e (Fs.da e he) ha with ⟨h2, h3⟩ | ⟨h2, h3⟩
        · rw [h2] at this; exact absurd this (by decide)
        · exact h3 h1
      | some i =>
        obtain ⟨l, h2, h3⟩ := findIdx_uniq _ _ _ q
        rw [ep, List.getElem?_map] at h2
        cases r : ((firsts S [] S.lines).filter fun e => decide (0 < twiceArea S (orb S e)))[i]? with
        | none => rw [r] at h2; exact nomatch h2
        | some e' =>
          rw [r] at h2
          obtain rfl := Option.some.inj h2
          have hm := List.mem_filter.1 (List.mem_of_getElem? r)
          refine ⟨i, e', rfl, r, Fs.da e' hm.1, ?_⟩
          rcases H e' (Fs.da e' hm.1) (of_decide_eq_true hm.2) with ⟨h4, h5⟩ | ⟨h4, h5⟩
          · exact h5
          · rw [h4] at h3; exact absurd h3 (by decide)
    · right
      refine ⟨h, ?_⟩
      rw [paneIdx, List.findIdx?_eq_none_iff]
      intro l hl
      rw [ep] at hl
      obtain ⟨e, h1, rfl⟩ := List.mem_map.1 hl
      have hm := List.mem_filter.1 h1
      rcases H e (Fs.da e hm.1) (of_decide_eq_true hm.2) with ⟨h4, h5⟩ | ⟨h4, h5⟩
      · exfalso
        apply h
        rw [orb_area W (Fs.da e hm.1) h5]; exact of_decide_eq_true hm.2
      · rw [h4]; decide
  rcases one hx H with ⟨h1, i, e, h2, h3, h4, h5⟩ | ⟨h1, h2⟩ <;> rcases one hx' H' with ⟨g1, j, f, g2, g3, g4, g5⟩ | ⟨g1, g2⟩
  · rw [h2, g2, if_pos h1, if_pos g1]
    constructor
    · intro q
      obtain rfl := Option.some.inj q
      rw [h3] at g3
      obtain rfl := Option.some.inj g3
      rw [← (canon_iff W h4 hx).2 h5, ← (canon_iff W h4 hx').2 g5]
    · intro q
      have q := Option.some.inj q
      rw [← (canon_iff W h4 hx).2 h5, ← (canon_iff W g4 hx').2 g5] at q
      have ef := (canon_iff W h4 g4).1 q
      have pw := List.Pairwise.filter (fun e => decide (0 < twiceArea S (orb S e))) Fs.pw
      obtain ⟨i1, i2⟩ := List.getElem?_eq_some_iff.1 h3
      obtain ⟨j1, j2⟩ := List.getElem?_eq_some_iff.1 g3
      rw [List.pairwise_iff_getElem] at pw
      rcases Nat.lt_trichotomy i j with c | c | c
      · have := pw i j i1 j1 c
        rw [i2, j2] at this
        exact absurd ef this
      · rw [c]
      · have := pw j i j1 i1 c
        rw [i2, j2] at this
        exact absurd (ino_symm G T h4 ef) this
  · rw [h2, g2, if_pos h1, if_neg g1]; simp
  · rw [h2, g2, if_neg h1, if_pos g1]; simp
  · rw [h2, g2, if_neg h1, if_neg g1]; simp

/-! ## a mark in a pane that has one -/
def dup {α : Type} [DecidableEq α] : Nat → List α → List α → Option Nat
  | _, _, [] => none
  | i, had, a :: r => if a ∈ had then some i else dup (i + 1) (a :: had) r
theorem twice_dup (S : Plan) (all : List (List Nat)) : ∀ (l : List Mark) (i : Nat) (had : List (Option (List Nat))), twice S all i had l = dup i had (l.map fun m => S.among all m.at_)
  | [], _, _ => rfl
  | m :: r, i, had => by
    rw [twice, List.map_cons, dup]
    by_cases q : S.among all m.at_ ∈ had
    · rw [if_pos (List.contains_iff_mem.2 q), if_pos q]
    · rw [if_neg (fun h => q (List.contains_iff_mem.1 h)), if_neg q, twice_dup S all r]
theorem dup_congr {ι α β : Type} [DecidableEq α] [DecidableEq β] (f : ι → α) (g : ι → β) : ∀ (l had : List ι) (i : Nat), (∀ a ∈ had ++ l, ∀ b ∈ had ++ l, f a = f b ↔ g a = g b) → dup i (had.map f) (l.map f) = dup i (had.map g) (l.map g)
  | [], _, _, _ => rfl
  | a :: r, had, i, h => by
    rw [List.map_cons, List.map_cons, dup, dup]
    have m : f a ∈ had.map f ↔ g a ∈ had.map g := by
      rw [List.mem_map, List.mem_map]
      constructor
      · rintro ⟨x, h1, h2⟩; exact ⟨x, h1, (h x (by simp [h1]) a (by simp)).1 h2⟩
      · rintro ⟨x, h1, h2⟩; exact ⟨x, h1, (h x (by simp [h1]) a (by simp)).2 h2⟩
    by_cases q : f a ∈ had.map f
    · rw [if_pos q, if_pos (m.1 q)]
    · rw [if_neg q, if_neg (fun h => q (m.2 h))]
      have := dup_congr f g r (a :: had) (i + 1) (by
        intro x hx y hy
        exact h x (by simp at hx ⊢; grind) y (by simp at hy ⊢; grind))
      simpa using this

theorem twice_idx {S : Plan} (F : Framed S) (h : ∀ m ∈ S.marks, clear S m.at_ = true) : twice S S.outlines 0 [] S.marks = dup 0 [] (S.marks.map fun m => paneIdx S m.at_) := by
  rw [twice_dup]
  refine dup_congr (fun m : Mark => S.among S.outlines m.at_) (fun m : Mark => paneIdx S m.at_) S.marks [] 0 ?_
  intro a ha b hb
  rw [List.nil_append] at ha hb
  exact (idx_iff F (h a ha) (h b hb)).symm

end Geo
end PGeo11

section PGeo12
open GlaPlan
namespace Geo

/-! ## the first place -/
def fa0 {α : Type} (p : Nat → α → Bool) : Nat → List α → Option Nat
  | _, [] => none
  | i, x :: r => if p i x = true then some i else fa0 p (i + 1) r
theorem fa0_zip {α : Type} (p : Nat → α → Bool) : ∀ (l : List α) (i : Nat), ((l.zipIdx i).find? fun (x : α × Nat) => p x.2 x.1).map (fun (x : α × Nat) => x.2) = fa0 p i l
  | [], _ => rfl
  | x :: r, i => by
    rw [List.zipIdx_cons, fa0]
    by_cases h : p i x = true
    · rw [List.find?_cons_of_pos (by exact h), if_pos h]; rfl
    · rw [List.find?_cons_of_neg (by exact h), if_neg h, fa0_zip p r]
theorem firstAt_eq {α : Type} (p : Nat → α → Bool) (l : List α) : GlaBase.firstAt p l = fa0 p 0 l := fa0_zip p l 0
theorem fa0_none {α : Type} (p : Nat → α → Bool) : ∀ (l : List α) (i : Nat), fa0 p i l = none → ∀ j x, l[j]? = some x → p (i + j) x = false
  | [], _, _, j, x, h => by simp at h
  | y :: r, i, h, j, x, hx => by
    rw [fa0] at h
    by_cases q : p i y = true
    · rw [if_pos q] at h; exact nomatch h
    · rw [if_neg q] at h
      cases j with
      | zero =>
        simp at hx; subst hx
        simpa using q
      | succ j =>
        have := fa0_none p r (i + 1) h j x (by simpa using hx)
        rw [← this]; congr 1; omega
theorem firstBad_eq {α : Type} (ok : α → Bool) (before : α → α → Bool) (l : List α) : firstBad ok before l = fa0 (fun i x => !ok x || (decide (0 < i) && (match l[i - 1]? with
  | some y => !before y x
  | none => false))) 0 l := firstAt_eq _ l
theorem firstBad_none {α : Type} {ok : α → Bool} {before : α → α → Bool} {l : List α} (h : firstBad ok before l = none) :
    (∀ (i : Nat) (x : α), l[i]? = some x → ok x = true) ∧ ∀ (i : Nat) (x y : α), l[i]? = some x → l[i + 1]? = some y → before x y = true := by
  rw [firstBad_eq] at h
  have f := fa0_none _ l 0 h
  constructor
  · intro i x hx
    have := f i x hx
    simp only [Bool.or_eq_false_iff] at this
    simpa using this.1
  · intro i x y hx hy
    have := f (i + 1) y hy
    simp only [Nat.zero_add, Bool.or_eq_false_iff, Nat.add_sub_cancel, hx] at this
    simpa using this.2
theorem chain_lt {α : Type} {R : α → α → Prop} (tr : ∀ a b c, R a b → R b c → R a c) {l : List α} (h : ∀ (i : Nat) (x y : α), l[i]? = some x → l[i + 1]? = some y → R x y) :
    ∀ (d i : Nat) (x y : α), l[i]? = some x → l[i + 1 + d]? = some y → R x y
  | 0, i, x, y, hx, hy => h i x y hx hy
  | d + 1, i, x, y, hx, hy => by
    have hl : i + 1 + d < l.length := by
      have := (List.getElem?_eq_some_iff.1 hy).1; omega
    have h1 := chain_lt tr h d i x _ hx (List.getElem?_eq_getElem hl)
    exact tr _ _ _ h1 (h _ _ _ (List.getElem?_eq_getElem hl) (by rw [show i + 1 + d + 1 = i + 1 + (d + 1) by omega]; exact hy))

theorem pt_get {S : Plan} {i : Nat} (h : i < S.pts.length) : S.pts[i]? = some (S.pt i) := by
  rw [Plan.pt, List.getD_eq_getElem?_getD, List.getElem?_eq_getElem h]; rfl

/-! ## what is come to is joined -/
def Seen (a : Array Bool) (j : Nat) : Prop := a[j]? = some true
theorem getD_true {a : Array Bool} {j : Nat} : a.getD j true = true ↔ Seen a j ∨ a.size ≤ j := by
  rw [Array.getD_eq_getD_getElem?, Seen]
  by_cases h : j < a.size
  · rw [Array.getElem?_eq_getElem h]
    simp; omega
  · rw [Array.getElem?_eq_none (by omega)]
    simp; omega
theorem seen_set {a : Array Bool} {i j : Nat} (hi : i < a.size) : Seen (a.setIfInBounds i true) j ↔ j = i ∨ Seen a j := by
  rw [Seen, Seen, Array.getElem?_setIfInBounds]
  by_cases e : i = j
  · subst e; simp [hi]
  · rw [if_neg e]; simp [Ne.symm e]
theorem seen_lt {a : Array Bool} {j : Nat} (h : Seen a j) : j < a.size := by
  rw [Seen] at h
  exact (Array.getElem?_eq_some_iff.1 h).1

def push (l : List Nat) (a : List Nat × Array Bool) : List Nat × Array Bool := l.foldl (fun (a : List Nat × Array Bool) (j : Nat) => if a.2.getD j true = true then a else (j :: a.1, a.2.setIfInBounds j true)) a
theorem spread_succ (near : Array (List Nat)) (n k : Nat) (r : List Nat) (seen : Array Bool) : spread near (n + 1) (k :: r) seen = spread near n (push (near.getD k []) (r, seen)).1 (push (near.getD k []) (r, seen)).2 := rfl
theorem push_cons (j : Nat) (l : List Nat) (a : List Nat × Array Bool) : push (j :: l) a = push l (if a.2.getD j true = true then a else (j :: a.1, a.2.setIfInBounds j true)) := rfl

structure Fair (P Q : Nat → Prop) (a : List Nat × Array Bool) : Prop where
  td : ∀ k ∈ a.1, P k
  sn : ∀ j, Seen a.2 j → P j ∨ Q j
  sh : ∀ j, j < a.2.size → Q j → Seen a.2 j

theorem push_fair {P Q : Nat → Prop} : ∀ (l : List Nat) (a : List Nat × Array Bool), Fair P Q a → (∀ j ∈ l, Q j ∨ P j) → Fair P Q (push l a)
  | [], a, h, _ => h
  | j :: l, a, h, g => by
    rw [push_cons]
    refine push_fair l _ ?_ (fun x hx => g x (by simp [hx]))
    by_cases q : a.2.getD j true = true
    · rw [if_pos q]; exact h
    · rw [if_neg q]
      have nq := fun x => q (getD_true.2 x)
      have js : j < a.2.size := by
        refine Classical.byContradiction fun h => nq (.inr (by omega))
      have ns : ¬ Seen a.2 j := fun h => nq (.inl h)
      have pj : P j := by
        rcases g j (by simp) with h' | h'
        · exact absurd (h.sh j js h') ns
        · exact h'
      refine ⟨?_, ?_, ?_⟩
      · intro x hx
        rcases List.mem_cons.1 hx with h' | h'
        · rw [h']; exact pj
        · exact h.td x h'
      · intro x hx
        rcases (seen_set js).1 hx with h' | h'
        · rw [h']; exact .inl pj
        · exact h.sn x h'
      · intro x hx hq
        simp only [Array.size_setIfInBounds] at hx
        exact (seen_set js).2 (.inr (h.sh x hx hq))
theorem spread_fair {near : Array (List Nat)} {P Q : Nat → Prop} (cl : ∀ k, P k → ∀ j ∈ near.getD k [], Q j ∨ P j) : ∀ (n : Nat) (todo : List Nat) (seen : Array Bool), Fair P Q (todo, seen) → ∀ j, Seen (spread near n todo seen) j → P j ∨ Q j
  | 0, todo, seen, h => h.sn
  | n + 1, [], seen, h => h.sn
  | n + 1, k :: r, seen, h => by
    rw [spread_succ]
    exact spread_fair cl n _ _ (push_fair _ _ ⟨fun x hx => h.td x (by simp [hx]), h.sn, h.sh⟩ (cl k (h.td k (by simp))))
theorem push_size : ∀ (l : List Nat) (a : List Nat × Array Bool), (push l a).2.size = a.2.size
  | [], a => rfl
  | j :: l, a => by
    rw [push_cons, push_size l]
    split <;> simp
theorem spread_size (near : Array (List Nat)) : ∀ (n : Nat) (todo : List Nat) (seen : Array Bool), (spread near n todo seen).size = seen.size
  | 0, _, _ => rfl
  | n + 1, [], _ => rfl
  | n + 1, k :: r, seen => by rw [spread_succ, spread_size near n, push_size]

theorem nears_get (S : Plan) (k : Nat) : S.nears.getD k [] = if k < S.pts.length then S.near k else [] := by
  rw [Plan.nears, Array.getD_eq_getD_getElem?]
  by_cases h : k < S.pts.length
  · simp [h]
  · simp [h, Nat.le_of_not_lt h]
theorem noneSeen_seen {n j : Nat} : ¬ Seen (noneSeen n) j := by
  rw [Seen, noneSeen, Array.getElem?_replicate]
  split <;> simp

/-- come to without the shut ones: joined without them -/
theorem seenFrom_conn {S : Plan} {bad : Nat → Prop} {first : Array Bool} {i : Nat} (hs : first.size = S.pts.length) (hi : i < S.pts.length)
    (hb : ∀ j, j < S.pts.length → (Seen first j ↔ bad j)) : ∀ j, Seen (seenFrom S.nears S.pts.length i first) j → Conn S bad i j ∨ bad j := by
  rw [seenFrom]
  refine spread_fair (P := fun j => Conn S bad i j) (Q := bad) ?_ _ _ _ ⟨?_, ?_, ?_⟩
  · intro k hk j hj
    rw [nears_get] at hj
    by_cases h : k < S.pts.length
    · rw [if_pos h] at hj
      by_cases q : bad j
      · exact .inl q
      · exact .inr (.step hk hj q)
    · rw [if_neg h] at hj; exact absurd hj (by simp)
  · intro k hk
    simp only [List.mem_singleton] at hk
    rw [hk]; exact .refl
  · intro j hj
    rcases (seen_set (by omega)).1 hj with h | h
    · rw [h]; exact .inl .refl
    · exact .inr ((hb j (by have := seen_lt h; omega)).1 h)
  · intro j hj hq
    simp only [Array.size_setIfInBounds] at hj
    exact (seen_set (by omega)).2 (.inr ((hb j (by omega)).2 hq))

/-! ## what the rules say -/
theorem near_nodup {S : Plan} (G : Good S) (v : Nat) : (S.near v).Nodup := by
  rw [Plan.near, List.Nodup, List.pairwise_filterMap]
  refine List.Pairwise.imp_of_mem ?_ G.nd
  intro a b ha hb n x hx y hy q
  subst q
  have la := G.lt a ha
  have lb := G.lt b hb
  apply n
  by_cases h1 : a.1 = v
  · rw [if_pos h1] at hx
    by_cases h2 : b.1 = v
    · rw [if_pos h2] at hy
      exact Prod.ext (h1.trans h2.symm) ((Option.some.inj hx).trans (Option.some.inj hy).symm)
    · rw [if_neg h2] at hy
      by_cases h3 : b.2 = v
      · rw [if_pos h3] at hy
        have := Option.some.inj hx; have := Option.some.inj hy; omega
      · rw [if_neg h3] at hy; exact nomatch hy
  · rw [if_neg h1] at hx
    by_cases h3 : a.2 = v
    · rw [if_pos h3] at hx
      by_cases h2 : b.1 = v
      · rw [if_pos h2] at hy
        have := Option.some.inj hx; have := Option.some.inj hy; omega
      · rw [if_neg h2] at hy
        by_cases h4 : b.2 = v
        · rw [if_pos h4] at hy
          exact Prod.ext ((Option.some.inj hx).trans (Option.some.inj hy).symm) (h3.trans h4.symm)
        · rw [if_neg h4] at hy; exact nomatch hy
    · rw [if_neg h3] at hx; exact nomatch hx

theorem turn_mul_sym (p q r s : Pt) : crosses r s p q = crosses p q r s := by
  simp only [crosses]; exact Bool.and_comm _ _

/-- two of a row, one behind the other -/
theorem row_succ : ∀ {l : List Nat}, l.Pairwise (· < ·) → ∀ {v v' : Nat}, v ∈ l → v' ∈ l → v < v' → ∃ w, v < w ∧ (v, w) ∈ l.zip (l.drop 1)
  | [], _, _, _, h, _, _ => absurd h (by simp)
  | [a], _, v, v', h, h', hv => by
    simp only [List.mem_singleton] at h h'; omega
  | a :: b :: r, pw, v, v', h, h', hv => by
    rw [List.pairwise_cons] at pw
    have ez : (a :: b :: r).zip ((a :: b :: r).drop 1) = (a, b) :: (b :: r).zip ((b :: r).drop 1) := rfl
    rw [ez]
    rcases List.mem_cons.1 h with e | e
    · subst e
      exact ⟨b, pw.1 b (by simp), by simp⟩
    · have hv' : v' ∈ b :: r := by
        rcases List.mem_cons.1 h' with e' | e'
        · have := pw.1 v e; omega
        · exact e'
      obtain ⟨w, h1, h2⟩ := row_succ pw.2 e hv' hv
      exact ⟨w, h1, List.mem_cons_of_mem _ h2⟩
theorem row_pred : ∀ {l : List Nat}, l.Pairwise (· < ·) → ∀ {v v' : Nat}, v ∈ l → v' ∈ l → v' < v → ∃ w, w < v ∧ (w, v) ∈ l.zip (l.drop 1)
  | [], _, _, _, h, _, _ => absurd h (by simp)
  | [a], _, v, v', h, h', hv => by
    simp only [List.mem_singleton] at h h'; omega
  | a :: b :: r, pw, v, v', h, h', hv => by
    rw [List.pairwise_cons] at pw
    have ez : (a :: b :: r).zip ((a :: b :: r).drop 1) = (a, b) :: (b :: r).zip ((b :: r).drop 1) := rfl
    rw [ez]
    have hvr : v ∈ b :: r := by
      rcases List.mem_cons.1 h with e | e
      · rcases List.mem_cons.1 h' with e' | e'
        · omega
        · have := pw.1 v' e'; omega
      · exact e
    by_cases eb : v = b
    · subst eb; exact ⟨a, pw.1 _ (by simp), by simp⟩
    · have pb := (List.pairwise_cons.1 pw.2).1
      have : v ∈ r := by
        rcases List.mem_cons.1 hvr with e | e
        · exact absurd e eb
        · exact e
      obtain ⟨w, h1, h2⟩ := row_pred pw.2 hvr (v' := b) (by simp) (pb v this)
      exact ⟨w, h1, List.mem_cons_of_mem _ h2⟩

theorem framed_of {S : Plan} (hw : 0 < S.w) (hh : 0 < S.h)
    (r4 : firstBad (fun (p : Pt) => decide (p.x ≤ S.w) && decide (p.y ≤ S.h)) Pt.below S.pts = none)
    (r5 : firstBad (fun (l : Nat × Nat) => decide (l.1 < l.2) && decide (l.2 < S.pts.length)) lineBelow S.lines = none)
    (r6 : frameOk S = true) (r7 : GlaBase.firstAt (touches S) S.lines = none)
    (r8 : ((List.range S.pts.length).find? fun (i : Nat) => decide ((S.near i).length < 2)) = none)
    (r9 : ((List.range S.pts.length).find? fun (i : Nat) => !((seenFrom S.nears S.pts.length 0 (noneSeen S.pts.length)).getD i false)) = none)
    (r10 : (List.range S.pts.length).find? (cuts S.nears S.pts.length) = none) : Framed S := by
  obtain ⟨a4, b4⟩ := firstBad_none r4
  obtain ⟨a5, b5⟩ := firstBad_none r5
  have below_tr : ∀ a b c : Pt, a.below b = true → b.below c = true → a.below c = true := by
    intro a b c h1 h2
    simp only [Pt.below, Bool.or_eq_true, Bool.and_eq_true, decide_eq_true_eq, beq_iff_eq] at *
    omega
  have line_tr : ∀ a b c : Nat × Nat, lineBelow a b = true → lineBelow b c = true → lineBelow a c = true := by
    intro a b c h1 h2
    simp only [lineBelow, Bool.or_eq_true, Bool.and_eq_true, decide_eq_true_eq, beq_iff_eq] at *
    omega
  have ord : ∀ i j, i < j → j < S.pts.length → (S.pt i).below (S.pt j) = true := by
    intro i j h1 h2
    refine chain_lt (R := fun a b => Pt.below a b = true) below_tr b4 (j - i - 1) i _ _ (pt_get (by omega)) ?_
    rw [show i + 1 + (j - i - 1) = j by omega]; exact pt_get h2
  have inb : ∀ i, i < S.pts.length → (S.pt i).x ≤ S.w ∧ (S.pt i).y ≤ S.h := by
    intro i hi
    simpa using a4 i _ (pt_get hi)
  have lok : ∀ l ∈ S.lines, l.1 < l.2 ∧ l.2 < S.pts.length := by
    intro l hl
    obtain ⟨i, hi⟩ := List.mem_iff_getElem?.1 hl
    simpa using a5 i _ hi
  have lnd : S.lines.Nodup := by
    rw [List.Nodup, List.pairwise_iff_getElem]
    intro i j hi hj hij e
    have := chain_lt (R := fun a b => lineBelow a b = true) line_tr b5 (j - i - 1) i _ _ (List.getElem?_eq_getElem hi) (by
      rw [show i + 1 + (j - i - 1) = j by omega]; exact List.getElem?_eq_getElem hj)
    rw [e] at this
    simp [lineBelow] at this
  rw [firstAt_eq] at r7
  have r7' := fa0_none _ _ _ r7
  have G : Good S := by
    refine ⟨ord, fun i hi => (inb i hi).1, fun l hl => (lok l hl).1, fun l hl => (lok l hl).2, lnd, ?_, ?_⟩
    · intro l hl k hk n1 n2
      obtain ⟨i, hi⟩ := List.mem_iff_getElem?.1 hl
      have := r7' i l hi
      rw [touches, Bool.or_eq_false_iff, List.any_eq_false] at this
      have := this.1 k (List.mem_range.2 hk)
      simpa [n1, n2] using this
    · have one : ∀ (i j : Nat) (l m : Nat × Nat), i < j → S.lines[i]? = some l → S.lines[j]? = some m → crosses (S.pt m.1) (S.pt m.2) (S.pt l.1) (S.pt l.2) = false := by
        intro i j l m hij hi hj
        have := r7' j m hj
        rw [touches, Bool.or_eq_false_iff, List.any_eq_false, List.any_eq_false] at this
        have h := this.2 l (by
          rw [Nat.zero_add]
          refine List.mem_iff_getElem?.2 ⟨i, ?_⟩
          rw [List.getElem?_take, if_pos hij]; exact hi)
        simpa using h
      intro l hl m hm
      obtain ⟨i, hi⟩ := List.mem_iff_getElem?.1 hl
      obtain ⟨j, hj⟩ := List.mem_iff_getElem?.1 hm
      rcases Nat.lt_trichotomy i j with c | c | c
      · rw [turn_mul_sym]; exact one i j l m c hi hj
      · subst c
        rw [hi] at hj
        obtain rfl := Option.some.inj hj
        simp [crosses, turn_self1, turn_self2]
      · exact one j i m l c hj hi
  have two : Two S := by
    intro v u hu
    have hv := (near_ub G hu).2
    rw [List.find?_eq_none] at r8
    have l2 := r8 v (List.mem_range.2 hv)
    have nd := near_nodup G v
    cases e : S.near v with
    | nil => rw [e] at hu; exact absurd hu (by simp)
    | cons a r =>
      cases r with
      | nil => rw [e] at l2; simp at l2
      | cons b r =>
        rw [e, List.nodup_cons] at nd
        by_cases q : a = u
        · refine ⟨b, by simp, ?_⟩
          rintro rfl; exact nd.1 (by simp [q])
        · exact ⟨a, by simp, q⟩
  have getD_false : ∀ {a : Array Bool} {j : Nat}, (a.getD j false) = true → Seen a j := by
    intro a j h
    rw [Array.getD_eq_getD_getElem?] at h
    rw [Seen]
    cases q : a[j]? with
    | none => rw [q] at h; exact nomatch h
    | some x => rw [q] at h; simpa using h
  have conn : ∀ v, v < S.pts.length → Conn S (fun _ => False) 0 v := by
    intro v hv
    rw [List.find?_eq_none] at r9
    have := r9 v (List.mem_range.2 hv)
    have sv := getD_false (by simpa using this)
    rcases seenFrom_conn (bad := fun _ => False) (by simp [noneSeen]) (by omega) (fun j _ => ⟨fun h => absurd h noneSeen_seen, fun h => h.elim⟩) v sv with h | h
    · exact h
    · exact h.elim
  -- four corners
  simp only [frameOk, Bool.and_eq_true] at r6
  obtain ⟨c00, cw0, c0h, cwh, e1, e2, e3, e4⟩ := r6
  have corner : ∀ p : Pt, S.pts.contains p = true → ∃ v, v < S.pts.length ∧ S.pt v = p := by
    intro p hp
    have := List.contains_iff_mem.1 hp
    obtain ⟨i, hi⟩ := List.mem_iff_getElem?.1 this
    have hl := (List.getElem?_eq_some_iff.1 hi).1
    refine ⟨i, hl, ?_⟩
    rw [pt_get hl] at hi; exact Option.some.inj hi
  obtain ⟨v00, h00, p00⟩ := corner _ c00
  obtain ⟨vw0, hw0, pw0⟩ := corner _ cw0
  obtain ⟨v0h, h0h, p0h⟩ := corner _ c0h
  obtain ⟨vwh, hwh, pwh⟩ := corner _ cwh
  have pwe : ∀ on, (edgePts S on).Pairwise (· < ·) := fun on => List.Pairwise.filter _ List.pairwise_lt_range
  have mem_e : ∀ {on : Pt → Bool} {v}, v ∈ edgePts S on ↔ v < S.pts.length ∧ on (S.pt v) = true := by
    intro on v
    rw [edgePts, List.mem_filter, List.mem_range]
  have joined_near : ∀ {v w}, v < w → S.joined v w = true → w ∈ S.near v := by
    intro v w h j
    rw [Plan.joined, List.contains_iff_mem, Nat.min_eq_left (Nat.le_of_lt h), Nat.max_eq_right (Nat.le_of_lt h)] at j
    rw [mem_near G, ln_lt h]; exact j
  have mem_zip : ∀ {l : List Nat} {v w : Nat}, (v, w) ∈ l.zip (l.drop 1) → v ∈ l ∧ w ∈ l := by
    intro l v w h
    exact ⟨(List.of_mem_zip h).1, List.mem_of_mem_drop (List.of_mem_zip h).2⟩
  have succ : ∀ on : Pt → Bool, chained S (edgePts S on) = true → ∀ v v', v < S.pts.length → v' < S.pts.length → on (S.pt v) = true → on (S.pt v') = true → v < v' → ∃ w ∈ S.near v, v < w ∧ on (S.pt w) = true := by
    intro on hc v v' hv hv' ov ov' hlt
    obtain ⟨w, h1, h2⟩ := row_succ (pwe on) (mem_e.2 ⟨hv, ov⟩) (mem_e.2 ⟨hv', ov'⟩) hlt
    rw [chained, List.all_eq_true] at hc
    exact ⟨w, joined_near h1 (hc _ h2), h1, (mem_e.1 (mem_zip h2).2).2⟩
  have pred : ∀ on : Pt → Bool, chained S (edgePts S on) = true → ∀ v v', v < S.pts.length → v' < S.pts.length → on (S.pt v) = true → on (S.pt v') = true → v' < v → ∃ w ∈ S.near v, w < v ∧ on (S.pt w) = true := by
    intro on hc v v' hv hv' ov ov' hlt
    obtain ⟨w, h1, h2⟩ := row_pred (pwe on) (mem_e.2 ⟨hv, ov⟩) (mem_e.2 ⟨hv', ov'⟩) hlt
    rw [chained, List.all_eq_true] at hc
    exact ⟨w, (near_symm G).1 (joined_near h1 (hc _ h2)), h1, (mem_e.1 (mem_zip h2).1).2⟩
  have idx : ∀ {v v'}, v < S.pts.length → v' < S.pts.length → ((S.pt v).y < (S.pt v').y ∨ ((S.pt v).y = (S.pt v').y ∧ (S.pt v).x < (S.pt v').x)) → v < v' := by
    intro v v' hv hv' h
    rcases Nat.lt_trichotomy v v' with c | c | c
    · exact c
    · subst c; omega
    · have := lex G c hv; omega
  refine { toGood := G, two := two, conn := conn, uncut := ?_, wpos := hw, hpos := hh, inh := fun i hi => (inb i hi).2, fl := ?_, ft := ?_, fr := ?_, fb := ?_, top := ⟨vwh, hwh, by rw [pwh], by rw [pwh]⟩ }
  · intro v hv
    have n4 : 2 ≤ S.pts.length := by
      have : v00 ≠ vwh := by
        rintro rfl
        rw [p00] at pwh
        injection pwh; omega
      omega
    refine ⟨if v = 0 then 1 else 0, by split <;> omega, fun b hb nb => ?_⟩
    rw [List.find?_eq_none] at r10
    have := r10 v (List.mem_range.2 hv)
    rw [cuts] at this
    have hsz : ((noneSeen S.pts.length).setIfInBounds v true).size = S.pts.length := by simp [noneSeen]
    have sz : (seenFrom S.nears S.pts.length (if v = 0 then 1 else 0) ((noneSeen S.pts.length).setIfInBounds v true)).size = S.pts.length := by
      rw [seenFrom, spread_size]; simp [noneSeen]
    have sb : Seen (seenFrom S.nears S.pts.length (if v = 0 then 1 else 0) ((noneSeen S.pts.length).setIfInBounds v true)) b := by
      rw [Seen, Array.getElem?_eq_getElem (by omega)]
      congr 1
      refine Classical.byContradiction fun q => this ?_
      rw [Array.contains_iff_mem]
      have q := Bool.eq_false_iff.2 q
      rw [← q]
      exact Array.getElem_mem _
    rcases seenFrom_conn (bad := fun x => x = v) hsz (by split <;> omega) (fun j hj => by
      rw [seen_set (by simp [noneSeen]; exact hv)]
      exact ⟨fun h => h.elim id (fun h => absurd h noneSeen_seen), .inl⟩) b sb with h | h
    · exact h
    · exact absurd h nb
  · intro v hv h1 h2
    obtain ⟨w, q1, q2, q3⟩ := succ (fun p => p.x == 0) e3 v v0h hv h0h (by simp [h1]) (by simp [p0h]) (idx hv h0h (by rw [p0h]; simp only; omega))
    exact ⟨w, q1, q2, by simpa using q3⟩
  · intro v hv h1 h2
    obtain ⟨w, q1, q2, q3⟩ := succ (fun p => p.y == S.h) e2 v vwh hv hwh (by simp [h1]) (by simp [pwh]) (idx hv hwh (by rw [pwh]; simp only; omega))
    exact ⟨w, q1, q2, by simpa using q3⟩
  · intro v hv h1 h2
    obtain ⟨w, q1, q2, q3⟩ := pred (fun p => p.x == S.w) e4 v vw0 hv hw0 (by simp [h1]) (by simp [pw0]) (idx hw0 hv (by rw [pw0]; simp only; omega))
    exact ⟨w, q1, q2, by simpa using q3⟩
  · intro v hv h1 h2
    obtain ⟨w, q1, q2, q3⟩ := pred (fun p => p.y == 0) e1 v v00 hv h00 (by simp [h1]) (by simp [p00]) (idx h00 hv (by rw [p00]; simp only; omega))
    exact ⟨w, q1, q2, by simpa using q3⟩

end Geo
end PGeo12

section PHl0
set_option Elab.async false
set_option linter.all false
set_option maxRecDepth 100000
set_option maxHeartbeats 2000000
namespace Hl
open PySem PySem.Spec PyProof.Rows L2 Evl

/-- a def that may be called by its name -/
structure Cal (P : Program) (w : World) (K : PySem.W.Frag) (mg : Str → Option Value) (base : Heap) (k : Nat) (x : Str) (sp : Sp) : Prop where
  ex : ∃ (f : Addr) (fd : FuncData) (ps : List Str), FnOk P w K mg base CX0 k f fd ps sp ∧ mg x = some (.ref f) ∧ PySem.W.keepIn K (.ref f) = true ∧ Binds K fd ps []
/-- a def of the module as it stands -/
structure Dfn (K : PySem.W.Frag) (mg : Str → Option Value) (x : Str) (st : Stmt) (ps : List Str) : Prop where
  ex : ∃ (f : Addr) (fd : FuncData), Fun K x x st f fd ∧ mg x = some (.ref f) ∧ PySem.W.keepIn K (.ref f) = true ∧ Binds K fd ps []

section
variable {X : Cx} {k j : Nat} {x : Str} {sp : Sp} {p pos : Pos} {e : Expr} {es : List Expr} {t : TA}
theorem pe_c (c : Cal X.prog X.w X.K X.mg X.base k x sp) (hr : Room j X.A) (hk : k ≤ j) (hg : Gl X x) (ha : PA X (e :: es) t)
    (hdb : (x == ("__debug__" : Str)) = false := by decide) (he : starEach (e :: es) X.env = (false, eval e X.env) :: starEach es X.env := by rfl) (hpl : (backTo pos (starEach es X.env)).any (·.1) = false := by rfl) :
    PE X (.Call (.Name x p) (e :: es) [] pos) (tCall sp [] E0 t) := by
  obtain ⟨f, fd, ps, F, hm, kp, b⟩ := c.ex
  exact pe_call F (hr.mono hk) hg hm kp b .nil pass0 ha hdb he hpl
theorem pe_gc {v : V} (hg : Gl X x) (h : ∃ u, X.mg x = some u ∧ RelV v u) (hd : (x == ("__debug__" : Str)) = false := by decide) : PE X (.Name x pos) (tC v) := by
  obtain ⟨u, hm, r⟩ := h
  exact pe_glob hg hm r hd
end

/-! ### what a call hands back -/
def EvR (te : TE) (σ : L2.St) (H : Hp) (R : V → Hp → Prop) : Prop := ∀ H1, Ex H H1 → ∀ Q : VK, (∀ v H2, Ex H1 H2 → R v H2 → Q v H2) → te σ H1 Q
def spV (A : List V → Hp → V → Prop) : Sp := fun vs H Q _ => ∃ v, A vs H v ∧ ∀ H', Ex H H' → Q v H'
def spR (A : List V → Hp → (V → Hp → Prop) → Prop) : Sp := fun vs H Q _ => ∃ R, A vs H R ∧ ∀ v H', Ex H H' → R v H' → Q v H'
/-- what stands in a heap stands in a larger one -/
def Mono {α : Sort _} (A : List V → Hp → α → Prop) : Prop := ∀ vs H H' v, Ex H H' → A vs H v → A vs H' v

section
variable {K : PySem.W.Frag} {σ : L2.St} {H H' : Hp} {ta tb te : TE} {tr : TA} {v : V} {vs : List V} {R : V → Hp → Prop}
theorem spv {A : List V → Hp → V → Prop} (m : Mono A) (h : A vs H v) : SpV (spV A) vs H v := fun H1 e Q q _ => ⟨v, m _ _ _ _ e h, fun H2 e2 => q H2 e2⟩
theorem ev_callV {A : List V → Hp → V → Prop} (m : Mono A) (h : EvA tr σ H vs) (a : A vs H v) : Ev (tCall (spV A) [] E0 tr) σ H v :=
  ev_call h (by rw [List.append_nil]; exact spv m a)
theorem er_callR {A : List V → Hp → (V → Hp → Prop) → Prop} (m : Mono A) (h : EvA tr σ H vs) (a : A vs H R) : EvR (tCall (spR A) [] E0 tr) σ H R := fun H1 e Q q =>
  h H1 e _ fun H2 e2 => by
    rw [List.append_nil]
    exact ⟨R, m _ _ _ _ (e.trans e2) a, fun v H3 e3 r => q v H3 (e2.trans e3) r⟩
theorem EvR.mono (e : Ex H H') (h : EvR te σ H R) : EvR te σ H' R := fun H1 a Q q => h H1 (e.trans a) Q q
theorem er_ev (h : Ev te σ H v) (r : ∀ H', Ex H H' → R v H') : EvR te σ H R := fun H1 e Q q => h H1 e Q fun H2 e2 => q v H2 e2 (r H2 (e.trans e2))
end

/-- the promise of a def that gives a value, by its body -/
theorem mk_V {P : Program} {w : World} {K : PySem.W.Frag} {mg : Str → Option Value} {base : Heap} {x : Str} {st : Stmt} {N ps : List Str} {k : Nat} {A : List V → Hp → V → Prop} (F : Dfn K mg x st ps) (S : FnScope N ps (defScope st)) (len : ∀ vs H v, A vs H v → vs.length = ps.length)
    (hbody : ∀ (f : Addr) (cdv : Value) (A' : Around) (outer : List Env) (s : Shared) (H : Hp) (vs : List V) (E : XK) (v : V), Room k (A'.deeper (envOfC x (defScope st) s.heap.objs.size f cdv)) → A vs H v →
      ∃ t, PSs (cxOf CX0 P w K mg base N x (defScope st) f cdv A' outer s H E).nox (defBody st) t ∧ ∀ (Q : VK), (∀ H', Ex H H' → Q v H') → t { nx := fun _ H' => Q .non H', rt := Q } (start N vs) H) : Cal P w K mg base (k + 1) x (spV A) := by
  obtain ⟨f, fd, F, hm, kp, b⟩ := F.ex
  refine ⟨f, fd, ps, F.ok S (fun vs H Q E h => ?_) (fun cdv A' outer s H vs Q E hr h => ?_), hm, kp, b⟩
  · obtain ⟨v, a, _⟩ := h
    exact len vs H v a
  · obtain ⟨v, a, q⟩ := h
    obtain ⟨t, h1, h2⟩ := hbody f cdv A' outer s H vs E v hr a
    exact ⟨t, h1, h2 Q q⟩
theorem mk_R {P : Program} {w : World} {K : PySem.W.Frag} {mg : Str → Option Value} {base : Heap} {x : Str} {st : Stmt} {N ps : List Str} {k : Nat} {A : List V → Hp → (V → Hp → Prop) → Prop} (F : Dfn K mg x st ps) (S : FnScope N ps (defScope st)) (len : ∀ vs H v, A vs H v → vs.length = ps.length)
    (hbody : ∀ (f : Addr) (cdv : Value) (A' : Around) (outer : List Env) (s : Shared) (H : Hp) (vs : List V) (E : XK) (R : V → Hp → Prop), Room k (A'.deeper (envOfC x (defScope st) s.heap.objs.size f cdv)) → A vs H R →
      ∃ t, PSs (cxOf CX0 P w K mg base N x (defScope st) f cdv A' outer s H E).nox (defBody st) t ∧ ∀ (Q : VK), (∀ v H', Ex H H' → R v H' → Q v H') → t { nx := fun _ H' => Q .non H', rt := Q } (start N vs) H) : Cal P w K mg base (k + 1) x (spR A) := by
  obtain ⟨f, fd, F, hm, kp, b⟩ := F.ex
  refine ⟨f, fd, ps, F.ok S (fun vs H Q E h => ?_) (fun cdv A' outer s H vs Q E hr h => ?_), hm, kp, b⟩
  · obtain ⟨v, a, _⟩ := h
    exact len vs H v a
  · obtain ⟨v, a, q⟩ := h
    obtain ⟨t, h1, h2⟩ := hbody f cdv A' outer s H vs E v hr a
    exact ⟨t, h1, h2 Q q⟩

/-! ### what stands for what -/
def isPt (K : PySem.W.Frag) (p : GlaPlan.Pt) (v : V) (H : Hp) : Prop := (p.x < 4294967296 ∧ p.y < 4294967296) ∧ ∃ a, v = .ref a ∧ SqT K H a [.int p.x, .int p.y]
def isPr (K : PySem.W.Frag) (l : Nat × Nat) (v : V) (H : Hp) : Prop := ∃ a, v = .ref a ∧ H a = some (.tup [.int l.1, .int l.2])
theorem isPt.mono {K : PySem.W.Frag} {p : GlaPlan.Pt} {v : V} {H H' : Hp} (e : Ex H H') (h : isPt K p v H) : isPt K p v H' := ⟨h.1, h.2.imp fun a h => ⟨h.1, ex_t e h.2⟩⟩
theorem isPr.mono {K : PySem.W.Frag} {p : Nat × Nat} {v : V} {H H' : Hp} (e : Ex H H') (h : isPr K p v H) : isPr K p v H' := h.imp fun a h => ⟨h.1, e _ _ h.2⟩
theorem at0 {x y : V} : atI [x, y] 0 = some x := rfl
theorem at1 {x y : V} : atI [x, y] 1 = some y := rfl

section
variable {K : PySem.W.Frag} {σ : L2.St} {H : Hp} {ta tb te : TE} {v x y : V} {i j : Int} {p : Addr} {xs : List V}
theorem ev_I0 {g : Int → Int → V} (ha : Ev ta σ H (.int i)) (hb : Ev tb σ H (.int j)) : Ev (tOp (rI0 g) ta tb) σ H (g i j) := ev_op ha hb rv_I0
theorem ev_I {C : Int → Int → Prop} {g : Int → Int → V} (ha : Ev ta σ H (.int i)) (hb : Ev tb σ H (.int j)) (hc : C i j) : Ev (tOp (rI C g) ta tb) σ H (g i j) := ev_op ha hb (rv_I hc)
theorem ev_ixT (ha : Ev ta σ H (.ref p)) (hb : Ev tb σ H (.int i)) (h : SqT K H p xs) (e : atI xs i = some v) : Ev (tOp (rIxT K) ta tb) σ H v := ev_op ha hb (rv_ixT h e)
theorem ev_ixL (ha : Ev ta σ H (.ref p)) (hb : Ev tb σ H (.int i)) (h : SqL K H p xs) (e : atI xs i = some v) : Ev (tOp (rIxL K) ta tb) σ H v := ev_op ha hb (rv_ixL h e)
theorem ev_eq (ha : Ev ta σ H x) (hb : Ev tb σ H y) (h : scal x y = true) : Ev (tOp rEq ta tb) σ H (.bl (decide (x = y))) := ev_op ha hb (rv_eq h)
theorem ev_ne (ha : Ev ta σ H x) (hb : Ev tb σ H y) (h : scal x y = true) : Ev (tOp rNe ta tb) σ H (.bl (!decide (x = y))) := ev_op ha hb (rv_ne h)
end

end Hl

namespace Hl
open PySem PySem.Spec PyProof.Rows L2 Evl
section
variable {K : PySem.W.Frag} {σ : L2.St} {H : Hp} {ta tb te : TE} {v x y : V} {i j : Int} {p : Addr} {xs : List V}
/-- x in (a, b): a new pair of flat things, written -/
theorem ev_inU {es : List V} {tr : TA} (ha : Ev ta σ H x) (hb : EvA tr σ H es) (hl : es.length ≤ 100000) (hx : flatV x = true) (hf : es.all flatV = true) : Ev (tOp (rIn K false) ta (tTup tr)) σ H (.bl (inV x es)) := Evl.ev_inU ha (eu_tup hb hl) hx hf
theorem ev_fld {C dx : Addr} {fs : List (Str × V)} {f : Str} (ha : Ev ta σ H (.ref p)) (ho : H p = some (.ins C dx fs)) (hc : Cls K C) (hn : NoAttr K C f) (hl : fs.lookup f = some v) : Ev (tFld K ta f) σ H v := fun H1 e Q q =>
  ha H1 e _ fun H2 e2 => ⟨p, C, dx, fs, v, rfl, e2 _ _ (e _ _ ho), hc, hn, hl, q H2 e2⟩
theorem ev_lenL (ha : Ev ta σ H (.ref p)) (h : SqL K H p xs) : Ev (tCB (rLenS K) (tCons ta tNil)) σ H (.int (xs.length : Int)) := fun H1 e Q q =>
  ha H1 e _ fun H2 e2 => ⟨p, xs, rfl, .inl (ex_l (e.trans e2) h), q H2 e2⟩
/-- a chain of two comparisons of whole numbers -/
theorem ev_chain {g g' : Int → Int → Bool} {tc : TE} {k : Int} (ha : Ev ta σ H (.int i)) (hb : Ev tb σ H (.int j)) (hc : g i j = true → Ev tc σ H (.int k)) :
    Ev (tChain (rI0 fun i j => .bl (g i j)) (rI0 fun i j => .bl (g' i j)) ta tb tc) σ H (.bl (g i j && g' j k)) := fun H1 e Q q =>
  ha H1 e _ fun H2 e2 => hb H2 (e.trans e2) _ fun H3 e3 => ⟨i, j, rfl, rfl, g i j, rfl, by
    cases h : g i j with
    | true =>
      rw [if_pos rfl]
      exact hc h H3 ((e.trans e2).trans e3) _ fun H4 e4 => ⟨j, k, rfl, rfl, by
        have z := q H4 ((e2.trans e3).trans e4)
        rw [h] at z
        simpa using z⟩
    | false =>
      rw [if_neg Bool.false_ne_true]
      have z := q H3 (e2.trans e3)
      rw [h] at z
      simpa using z⟩
theorem lookI {a : Int} {l : List Int} : (l.map V.int).all flatV = true := by
  simp [flatV]
theorem eqV_int (a b : Int) : eqV (.int a) (.int b) = decide (a = b) := by
  unfold eqV
  rw [Bool.eq_iff_iff]; simp
theorem inV_two (x a b : Int) : inV (.int x) [.int a, .int b] = (decide (a = x) || decide (b = x)) := by
  unfold inV; simp [eqV_int]
end
theorem cut_nat (xs : List V) (p q : Nat) : cutV xs (some (p : Int)) (some (q : Int)) = (xs.drop p).take (q - p) := by
  unfold cutV
  rw [HT.sIx_nat, HT.sIx_nat]
  rcases Nat.le_total p xs.length with h | h
  · rw [Nat.min_eq_left h]
    rcases Nat.le_total q xs.length with h2 | h2
    · rw [Nat.min_eq_left h2]
    · rw [Nat.min_eq_right h2, List.take_of_length_le (by rw [List.length_drop]; omega), List.take_of_length_le (by rw [List.length_drop]; omega)]
  · rw [Nat.min_eq_right h, List.drop_eq_nil_of_le (Nat.le_refl _), List.drop_eq_nil_of_le h]; simp
theorem cut_from (xs : List V) (p : Nat) : cutV xs (some (p : Int)) none = xs.drop p := by
  unfold cutV
  rw [HT.sIx_nat, HT.sIx_none]
  rcases Nat.le_total p xs.length with h | h
  · rw [Nat.min_eq_left h, List.take_of_length_le (by rw [List.length_drop]; omega)]
  · rw [Nat.min_eq_right h, List.drop_eq_nil_of_le (Nat.le_refl _), List.drop_eq_nil_of_le h]; simp
theorem cut_to (xs : List V) (q : Nat) : cutV xs none (some (q : Int)) = xs.take q := by
  unfold cutV
  rw [HT.sIx_nat, HT.sIx_none]
  rcases Nat.le_total q xs.length with h | h
  · rw [Nat.min_eq_left h]; simp
  · rw [Nat.min_eq_right h]; simp [List.take_of_length_le h]
end Hl
namespace Hl
open PySem PySem.Spec PyProof.Rows L2 Evl
section
variable {σ : L2.St} {H : Hp} {D : Ends} {tu tz : TS} {g : TG} {wi : TI}
theorem s_forIt (n : Nat) (Y : Nat → Hp → V → Hp → Prop) (Pv : Nat → L2.St → Hp → Prop)
    (hw : ∀ R : It → Hp → Prop, (∀ J G H1, Walk J n G Y → Pv 0 σ H1 → (∀ i σ H, i ≤ n → Pv i σ H → G H) → R J H1) → wi σ H R)
    (hs : ∀ i x σ' H' H'', i < n → Pv i σ' H' → Y i H' x H'' → g x σ' H'' fun σ2 H2 => tu { D with nx := Pv (i + 1), ct := Pv (i + 1), bk := D.nx } σ2 H2)
    (hd : ∀ σ' H', Pv n σ' H' → D.nx σ' H') : tFor wi g tu D σ H :=
  hw _ fun J G H1 w p0 hG => for_it w Pv p0 hG hs hd
theorem q_forIt (n : Nat) (Y : Nat → Hp → V → Hp → Prop) (Pv : Nat → L2.St → Hp → Prop)
    (hw : ∀ R : It → Hp → Prop, (∀ J G H1, Walk J n G Y → Pv 0 σ H1 → (∀ i σ H, i ≤ n → Pv i σ H → G H) → R J H1) → wi σ H R)
    (hs : ∀ i x σ' H' H'', i < n → Pv i σ' H' → Y i H' x H'' → g x σ' H'' fun σ2 H2 => tu { D with nx := Pv (i + 1), ct := Pv (i + 1), bk := tz D } σ2 H2)
    (hd : ∀ σ' H', Pv n σ' H' → tz D σ' H') : tSeq (tFor wi g tu) tz D σ H := s_forIt (D := { D with nx := tz D }) n Y Pv hw hs hd
end
end Hl
end PHl0

section PRl1
set_option Elab.async false
set_option linter.all false
set_option maxRecDepth 100000
set_option maxHeartbeats 2000000
namespace Hl
open PySem PySem.Spec PyProof.Rows L2 Evl
open PySem.SeqAt (EqAt)
/-- t > u of two pairs of whole numbers; t <= u -/
def rCmp2 (K : PySem.W.Frag) (g : Int → Int → Int → Int → Bool) : R2 := fun x y H Q => ∃ (a b : Addr) (i j k l : Int), x = .ref a ∧ y = .ref b ∧ SqT K H a [.int i, .int j] ∧ SqT K H b [.int k, .int l] ∧ Q (.bl (g i j k l)) H
theorem op_gt2 {X : Cx} (hu : X.A.units < cLine) : OpR X (compareOp .Gt) (rCmp2 X.K fun i j k l => decide (k < i) || (decide (i = k) && decide (l < j))) := by
  intro pins s σ H x y v u Q I rx ry h
  obtain ⟨a, b, i, j, k, l, rfl, rfl, ha, hb, q⟩ := h
  cases rx
  cases ry
  have ha : SqT X.K H a (([i, j] : List Int).map V.int) := ha
  have hb : SqT X.K H b (([k, l] : List Int).map V.int) := hb
  generalize hns : ([i, j] : List Int) = ns at ha
  generalize hms : ([k, l] : List Int) = ms at hb
  obtain ⟨its, r1, p1, _⟩ := I.tuple ha
  obtain ⟨its2, r2, p2, _⟩ := I.tuple hb
  have i1 : IntsAre its ns := Vals.ints r1
  have i2 : IntsAre its2 ms := Vals.ints r2
  have e1 : its.toArray.size = ns.length := by rw [List.size_toArray]; exact i1.length
  have e2 : its2.toArray.size = ms.length := by rw [List.size_toArray]; exact i2.length
  have at1 : ∀ j (h1 : j < its.toArray.size), ∃ t, its.toArray[j] = .int (ns.getD j 0) t := fun j h1 => PyProof.Rows.IntsAre.int_at i1 _ _ (by simp at h1; simp [h1])
  have at2 : ∀ j (h1 : j < its2.toArray.size), ∃ t, its2.toArray[j] = .int (ms.getD j 0) t := fun j h1 => PyProof.Rows.IntsAre.int_at i2 _ _ (by simp at h1; simp [h1])
  have R := Ob.RcOp.tuples_gt (A := X.A) (s := s) (e := fun j => decide (ns.getD j 0 = ms.getD j 0)) (r := fun j => decide (ms.getD j 0 < ns.getD j 0)) p1 p2 hu (fun j h1 h2 => by
    obtain ⟨t, et⟩ := at1 j h1
    obtain ⟨t', et'⟩ := at2 j h2
    rw [et, et']
    have z : (ns.getD j 0 == ms.getD j 0) = decide (ns.getD j 0 = ms.getD j 0) := by
      by_cases q : ns.getD j 0 = ms.getD j 0
      · rw [decide_eq_true q]; exact beq_iff_eq.mpr q
      · rw [decide_eq_false q]; exact beq_eq_false_iff_ne.mpr q
    rw [← z]
    exact SeqAt.EqAt.int_int _ _ _ _) (fun j h1 h2 _ => by
    obtain ⟨t, et⟩ := at1 j h1
    obtain ⟨t', et'⟩ := at2 j h2
    rw [et, et']
    exact Ob.RcOp.gt_int _ _ _ _)
  rw [e1, e2] at R
  have z : wpAny (model X.prog X.w) X.A (compareOp .Gt (.ref a) (.ref b)) (EP X pins σ Q) X.xe s := R X.prog X.w X.xe (EP X pins σ Q) ⟨.bl _, H, I, rfl, by
    subst hns hms
    have e : Ob.lexAt (fun x => decide (([i, j] : List Int).getD x 0 = ([k, l] : List Int).getD x 0)) (fun x => decide (([k, l] : List Int).getD x 0 < ([i, j] : List Int).getD x 0)) (decide (([k, l] : List Int).length < ([i, j] : List Int).length)) 0 (min ([i, j] : List Int).length ([k, l] : List Int).length) = (decide (k < i) || (decide (i = k) && decide (l < j))) := by
      show (if decide (i = k) = true then (if decide (j = l) = true then decide (2 < 2) else decide (l < j)) else decide (k < i)) = _
      by_cases h1 : i = k
      · by_cases h2 : j = l
        · simp [h1, h2]
        · simp [h1, h2]
      · simp [h1]
    first | (rw [e]; exact q) | (have q' := q; rw [← e] at q'; exact q')⟩
  exact z
theorem op_lt2 {X : Cx} (hu : X.A.units < cLine) : OpR X (compareOp .Lt) (rCmp2 X.K fun i j k l => decide (i < k) || (decide (i = k) && decide (j < l))) := by
  intro pins s σ H x y v u Q I rx ry h
  obtain ⟨a, b, i, j, k, l, rfl, rfl, ha, hb, q⟩ := h
  refine op_ltT hu pins s σ H _ _ v u Q I rx ry ⟨a, b, [i, j], [k, l], rfl, rfl, ha, hb, ?_⟩
  have e : HT.lexLt [i, j] [k, l] = (decide (i < k) || (decide (i = k) && decide (j < l))) := by
    simp only [HT.lexLt]
    by_cases h1 : i = k
    · by_cases h2 : j = l
      · simp [h1, h2]
      · simp [h1, h2]
    · simp [h1]
  rw [e]; exact q
theorem op_le2 {X : Cx} (hu : X.A.units < cLine) : OpR X (compareOp .LtE) (rCmp2 X.K fun i j k l => decide (i < k) || (decide (i = k) && decide (j ≤ l))) := by
  intro pins s σ H x y v u Q I rx ry h
  obtain ⟨a, b, i, j, k, l, rfl, rfl, ha, hb, q⟩ := h
  refine op_leT hu pins s σ H _ _ v u Q I rx ry ⟨a, b, [i, j], [k, l], rfl, rfl, ha, hb, ?_⟩
  have e : Ob.lexAt (fun x => decide (([i, j] : List Int).getD x 0 = ([k, l] : List Int).getD x 0)) (fun x => decide (([i, j] : List Int).getD x 0 ≤ ([k, l] : List Int).getD x 0)) (decide (([i, j] : List Int).length ≤ ([k, l] : List Int).length)) 0 (min ([i, j] : List Int).length ([k, l] : List Int).length) = (decide (i < k) || (decide (i = k) && decide (j ≤ l))) := by
    show (if decide (i = k) = true then (if decide (j = l) = true then decide (2 ≤ 2) else decide (j ≤ l)) else decide (i ≤ k)) = _
    by_cases h1 : i = k
    · by_cases h2 : j = l
      · simp [h1, h2]
      · simp [h1, h2]
    · simp [h1]; omega
  rw [e]; exact q
section
variable {K : PySem.W.Frag} {σ : L2.St} {H : Hp} {ta tb te : TE}
theorem ev_cmp2UU {g : Int → Int → Int → Int → Bool} {i j k l : Int} (ha : EvU ta σ H [.int i, .int j]) (hb : EvU tb σ H [.int k, .int l]) : Ev (tOp (rCmp2 K g) ta tb) σ H (.bl (g i j k l)) :=
  ev_opUU ha hb fun p q H1 h1 h2 _ H2 e2 Q' q' => ⟨p, q, i, j, k, l, rfl, rfl, ex_t e2 (st_of h1), ex_t e2 (st_of h2), q' H2 (Ex.refl H2)⟩
theorem ev_cmp2 {g : Int → Int → Int → Int → Bool} {a b : Addr} {i j k l : Int} (ha : Ev ta σ H (.ref a)) (hb : Ev tb σ H (.ref b)) (h1 : SqT K H a [.int i, .int j]) (h2 : SqT K H b [.int k, .int l]) : Ev (tOp (rCmp2 K g) ta tb) σ H (.bl (g i j k l)) :=
  ev_op ha hb fun H2 e2 Q' q' => ⟨a, b, i, j, k, l, rfl, rfl, ex_t e2 h1, ex_t e2 h2, q' H2 (Ex.refl H2)⟩
end
end Hl
end PRl1

section PHl1
set_option Elab.async false
set_option linter.all false
set_option maxRecDepth 100000
set_option maxHeartbeats 2000000
local macro_rules | `(tactic| walk_at "ev") => `(tactic| (first
  | exact Evl.ev_c
  | exact Evl.ev_var rfl
  | (apply Hl.ev_I0 <;> walk_at "ev")
  | (apply Hl.ev_I <;> walk_at "ev")
  | (apply Hl.ev_ixT <;> walk_at "ev")
  | (apply Hl.ev_ixL <;> walk_at "ev")
  | exact Evl.ea_nil
  | (apply Evl.ea_cons <;> walk_at "ev")
  | (apply Hl.ev_callV <;> first | assumption | walk_at "ev")
  | (apply Hl.ev_eq <;> walk_at "ev")
  | (apply Hl.ev_ne <;> walk_at "ev")
  | (apply Hl.ev_fld <;> first | assumption | walk_at "ev")
  | (apply Hl.ev_lenL <;> first | assumption | walk_at "ev")
  | (apply Hl.ev_chain <;> first | (refine fun (_ : _ = _) => ?_; walk_at "ev") | walk_at "ev")
  | (apply Evl.ev_orV <;> first | (refine fun (_ : _ = _) => ?_; walk_at "ev") | walk_at "ev")
  | (apply Evl.ev_andV <;> first | (refine fun (_ : _ = _) => ?_; walk_at "ev") | walk_at "ev")
  | (apply Evl.ev_notV <;> walk_at "ev")
  | (apply Evl.et_test <;> walk_at "ev")
  | (apply Evl.et_B <;> walk_at "ev")
  | (apply Evl.et_not <;> walk_at "ev")
  | (apply Evl.et_and <;> first | (refine fun (_ : _ = _) => ?_; walk_at "ev") | walk_at "ev")
  | (apply Evl.et_or <;> first | (refine fun (_ : _ = _) => ?_; walk_at "ev") | walk_at "ev")
  | assumption
  | (exact Evl.st_of (by assumption))
  | exact rfl
  | skip))

namespace Hl
open PySem PySem.Spec PyProof.Rows L2 Evl
open GlaPlan (Pt)
def topS (i : Nat) : Stmt := PySem.Challenge.pw_leadstrips_s02_pieces.main.body.getD i (.Pass ⟨0, 0, 0, 0⟩)
structure Txt (K : PySem.W.Frag) (mg : Str → Option Value) : Prop where
  g_HEAD_SIZE : ∃ u, mg "HEAD_SIZE" = some u ∧ RelV (.int 20) u
  g_POINT_SIZE : ∃ u, mg "POINT_SIZE" = some u ∧ RelV (.int 8) u
  g_LINE_SIZE : ∃ u, mg "LINE_SIZE" = some u ∧ RelV (.int 4) u
  g_MARK_SIZE : ∃ u, mg "MARK_SIZE" = some u ∧ RelV (.int 12) u
  g_BEND_BITS : ∃ u, mg "BEND_BITS" = some u ∧ RelV (.int 82) u
  g_MOST_BYTES : ∃ u, mg "MOST_BYTES" = some u ∧ RelV (.int 131072) u
  len : mg "len" = none
  abs : mg "abs" = none
  range : mg "range" = none
  reversed : mg "reversed" = none
  enumerate : mg "enumerate" = none
  zip : mg "zip" = none
  sorted : mg "sorted" = none
  tuple : mg "tuple" = none
section
variable {P : Program} {w : World} {K : PySem.W.Frag} {mg : Str → Option Value} {base : Heap}
/-! ### turn, onward -/
def A3 (K : PySem.W.Frag) (f : Pt → Pt → Pt → V) : List V → Hp → V → Prop := fun vs H v => ∃ (x y z : V) (p q r : Pt), vs = [x, y, z] ∧ isPt K p x H ∧ isPt K q y H ∧ isPt K r z H ∧ v = f p q r
theorem A3.mono {f : Pt → Pt → Pt → V} : Mono (A3 K f) := fun vs H H' v e ⟨x, y, z, p, q, r, h, h1, h2, h3, h4⟩ => ⟨x, y, z, p, q, r, h, h1.mono e, h2.mono e, h3.mono e, h4⟩
theorem A3.len {f : Pt → Pt → Pt → V} {vs : List V} {H : Hp} {v : V} (h : A3 K f vs H v) : vs.length = 3 := by
  obtain ⟨x, y, z, p, q, r, rfl, _⟩ := h; rfl
theorem cmul_s {i j : Int} (h : -4294967296 < i ∧ i < 4294967296) : CMul i j := .inl (by omega)
abbrev s_turn : Stmt := topS 18
abbrev N_turn : List Str := ["p", "q", "r"]
theorem sc_turn : FnScope N_turn ["p", "q", "r"] (defScope s_turn) := ⟨rfl, rfl, rfl, by decide +kernel, rfl, by decide +kernel, by decide +kernel⟩
theorem k_turn (F : Dfn K mg "turn" s_turn ["p", "q", "r"]) : Cal P w K mg base 1 "turn" (spV (A3 K fun p q r => .int (GlaPlan.turn p q r))) := by
  refine mk_V F sc_turn (fun vs H v h => h.len) (fun f cdv A' outer s H vs E v hr a => ?_)
  obtain ⟨x, y, z, p, q, r, rfl, ⟨hp, a1, rfl, h1⟩, ⟨hq, a2, rfl, h2⟩, ⟨hr', a3, rfl, h3⟩, rfl⟩ := a
  refine ⟨_, (pss_one (ps_ret (pe_op op_sub (pe_op op_mul (pe_op op_sub (pe_ix ix_tup (pv 1) pe_int (fun _ _ => rfl)) (pe_ix ix_tup (pv 0) pe_int (fun _ _ => rfl))) (pe_op op_sub (pe_ix ix_tup (pv 2) pe_int (fun _ _ => rfl)) (pe_ix ix_tup (pv 1) pe_int (fun _ _ => rfl)))) (pe_op op_mul (pe_op op_sub (pe_ix ix_tup (pv 1) pe_int (fun _ _ => rfl)) (pe_ix ix_tup (pv 0) pe_int (fun _ _ => rfl))) (pe_op op_sub (pe_ix ix_tup (pv 2) pe_int (fun _ _ => rfl)) (pe_ix ix_tup (pv 1) pe_int (fun _ _ => rfl))))))), fun Q kq => ?_⟩
  apply s_ret
  · walk_at "ev"
    · exact cmul_s (by omega)
    · exact cmul_s (by omega)
  · exact kq
abbrev s_onward : Stmt := topS 19
abbrev N_onward : List Str := ["p", "v", "q"]
theorem sc_onward : FnScope N_onward ["p", "v", "q"] (defScope s_onward) := ⟨rfl, rfl, rfl, by decide +kernel, rfl, by decide +kernel, by decide +kernel⟩
theorem k_onward (F : Dfn K mg "onward" s_onward ["p", "v", "q"]) : Cal P w K mg base 1 "onward" (spV (A3 K fun p q r => .int (GlaPlan.goesOn p q r))) := by
  refine mk_V F sc_onward (fun vs H v h => h.len) (fun f cdv A' outer s H vs E v hr a => ?_)
  obtain ⟨x, y, z, p, q, r, rfl, ⟨hp, a1, rfl, h1⟩, ⟨hq, a2, rfl, h2⟩, ⟨hr', a3, rfl, h3⟩, rfl⟩ := a
  refine ⟨_, (pss_one (ps_ret (pe_op op_add (pe_op op_mul (pe_op op_sub (pe_ix ix_tup (pv 1) pe_int (fun _ _ => rfl)) (pe_ix ix_tup (pv 0) pe_int (fun _ _ => rfl))) (pe_op op_sub (pe_ix ix_tup (pv 2) pe_int (fun _ _ => rfl)) (pe_ix ix_tup (pv 1) pe_int (fun _ _ => rfl)))) (pe_op op_mul (pe_op op_sub (pe_ix ix_tup (pv 1) pe_int (fun _ _ => rfl)) (pe_ix ix_tup (pv 0) pe_int (fun _ _ => rfl))) (pe_op op_sub (pe_ix ix_tup (pv 2) pe_int (fun _ _ => rfl)) (pe_ix ix_tup (pv 1) pe_int (fun _ _ => rfl))))))), fun Q kq => ?_⟩
  apply s_ret
  · walk_at "ev"
    · exact cmul_s (by omega)
    · exact cmul_s (by omega)
  · exact kq
/-! ### between, lies_on, apart, cross, comes_behind -/
def Abtw : List V → Hp → V → Prop := fun vs _ v => ∃ n p q : Nat, vs = [.int n, .int p, .int q] ∧ v = .bl (GlaPlan.between p q n)
theorem Abtw.mono : Mono Abtw := fun _ _ _ _ _ h => h
theorem btw_eq (n p q : Nat) : ((decide ((p : Int) ≤ n) && decide ((n : Int) ≤ q)) || (decide ((q : Int) ≤ n) && decide ((n : Int) ≤ p))) = GlaPlan.between p q n := by
  rw [Bool.eq_iff_iff]
  simp only [GlaPlan.between, Bool.or_eq_true, Bool.and_eq_true, decide_eq_true_eq]
  omega
abbrev s_between : Stmt := topS 20
abbrev N_between : List Str := ["number", "p", "q"]
theorem sc_between : FnScope N_between ["number", "p", "q"] (defScope s_between) := ⟨rfl, rfl, rfl, by decide +kernel, rfl, by decide +kernel, by decide +kernel⟩
theorem k_between (F : Dfn K mg "between" s_between ["number", "p", "q"]) : Cal P w K mg base 1 "between" (spV Abtw) := by
  refine mk_V F sc_between (fun vs H v h => by obtain ⟨_, _, _, rfl, _⟩ := h; rfl) (fun f cdv A' outer s H vs E v hr a => ?_)
  obtain ⟨n, p, q, rfl, rfl⟩ := a
  refine ⟨_, (pss_one (ps_ret (pe_or (pe_chain op_le op_le (pv 1) (pv 0) (pv 2)) (pe_one (pe_chain op_le op_le (pv 2) (pv 0) (pv 1)))))), fun Q kq => ?_⟩
  rw [← btw_eq] at kq
  apply s_ret
  · walk_at "ev"
  · exact kq
theorem isOn_eq (p q r : Pt) : (decide (V.int (GlaPlan.turn p q r) = V.int 0) && (GlaPlan.between p.x q.x r.x && GlaPlan.between p.y q.y r.y)) = GlaPlan.isOn p q r := by
  rw [GlaPlan.isOn, dec_int]
abbrev s_lies_on : Stmt := topS 21
abbrev N_lies_on : List Str := ["r", "p", "q"]
theorem sc_lies_on : FnScope N_lies_on ["r", "p", "q"] (defScope s_lies_on) := ⟨rfl, rfl, rfl, by decide +kernel, rfl, by decide +kernel, by decide +kernel⟩
theorem k_lies_on (F : Dfn K mg "lies_on" s_lies_on ["r", "p", "q"]) (c_turn : Cal P w K mg base 1 "turn" (spV (A3 K fun p q r => .int (GlaPlan.turn p q r)))) (c_between : Cal P w K mg base 1 "between" (spV Abtw)) :
    Cal P w K mg base 2 "lies_on" (spV (A3 K fun r p q => .bl (GlaPlan.isOn p q r))) := by
  refine mk_V F sc_lies_on (fun vs H v h => h.len) (fun f cdv A' outer s H vs E v hr a => ?_)
  obtain ⟨z, x, y, r, p, q, rfl, ir, ip, iq, rfl⟩ := a
  have a1 : A3 K (fun p q r => .int (GlaPlan.turn p q r)) [x, y, z] H (.int (GlaPlan.turn p q r)) := ⟨x, y, z, p, q, r, rfl, ip, iq, ir, rfl⟩
  obtain ⟨hr', a3, rfl, h3⟩ := ir
  obtain ⟨hp, a4, rfl, h4⟩ := ip
  obtain ⟨hq, a5, rfl, h5⟩ := iq
  have m1 : Mono (A3 K fun p q r => .int (GlaPlan.turn p q r)) := A3.mono
  have m2 : Mono Abtw := Abtw.mono
  have b1 : Abtw [.int r.x, .int p.x, .int q.x] H _ := ⟨_, _, _, rfl, rfl⟩
  have b2 : Abtw [.int r.y, .int p.y, .int q.y] H _ := ⟨_, _, _, rfl, rfl⟩
  refine ⟨_, (pss_one (ps_ret (pe_and (pe_cmpR op_eq (pe_c c_turn hr (by decide) (by rfl) (pa_cons (pv 1) (pa_cons (pv 2) (pa_cons (pv 0) pa_nil)))) pe_int (nomark _)) (pe_and (pe_c c_between hr (by decide) (by rfl) (pa_cons (pe_ix ix_tup (pv 0) pe_int (fun _ _ => rfl)) (pa_cons (pe_ix ix_tup (pv 1) pe_int (fun _ _ => rfl)) (pa_cons (pe_ix ix_tup (pv 2) pe_int (fun _ _ => rfl)) pa_nil)))) (pe_one (pe_c c_between hr (by decide) (by rfl) (pa_cons (pe_ix ix_tup (pv 0) pe_int (fun _ _ => rfl)) (pa_cons (pe_ix ix_tup (pv 1) pe_int (fun _ _ => rfl)) (pa_cons (pe_ix ix_tup (pv 2) pe_int (fun _ _ => rfl)) pa_nil))))))))), fun Q kq => ?_⟩
  replace kq : ∀ H', Ex H H' → Q (.bl (GlaPlan.isOn p q r)) H' := kq
  rw [← isOn_eq] at kq
  apply s_ret
  · walk_at "ev"
  · exact kq
def A4 (K : PySem.W.Frag) (f : Pt → Pt → Pt → Pt → V) : List V → Hp → V → Prop := fun vs H v => ∃ (x y z u : V) (p q r s : Pt), vs = [x, y, z, u] ∧ isPt K p x H ∧ isPt K q y H ∧ isPt K r z H ∧ isPt K s u H ∧ v = f p q r s
theorem A4.mono {f : Pt → Pt → Pt → Pt → V} : Mono (A4 K f) := fun vs H H' v e ⟨x, y, z, u, p, q, r, s, h, h1, h2, h3, h4, h5⟩ => ⟨x, y, z, u, p, q, r, s, h, h1.mono e, h2.mono e, h3.mono e, h4.mono e, h5⟩
theorem A4.len {f : Pt → Pt → Pt → Pt → V} {vs : List V} {H : Hp} {v : V} (h : A4 K f vs H v) : vs.length = 4 := by
  obtain ⟨x, y, z, u, p, q, r, s, rfl, _⟩ := h; rfl
theorem apart_eq (a b : Int) : ((decide (0 < a) && decide (b < 0)) || (decide (a < 0) && decide (0 < b))) = decide (a * b < 0) := by
  rw [Bool.eq_iff_iff]
  simp only [Bool.or_eq_true, Bool.and_eq_true, decide_eq_true_eq]
  constructor
  · rintro (⟨h1, h2⟩ | ⟨h1, h2⟩)
    · exact Int.mul_neg_of_pos_of_neg h1 h2
    · exact Int.mul_neg_of_neg_of_pos h1 h2
  · intro h
    rcases Int.lt_trichotomy a 0 with h1 | h1 | h1
    · rcases Int.lt_trichotomy b 0 with h2 | h2 | h2
      · have := Int.mul_pos_of_neg_of_neg h1 h2; omega
      · subst h2; simp at h
      · exact .inr ⟨h1, h2⟩
    · subst h1; simp at h
    · rcases Int.lt_trichotomy b 0 with h2 | h2 | h2
      · exact .inl ⟨h1, h2⟩
      · subst h2; simp at h
      · have := Int.mul_pos h1 h2; omega
abbrev s_apart : Stmt := topS 22
abbrev N_apart : List Str := ["p", "q", "r", "s", "r_side", "s_side"]
theorem sc_apart : FnScope N_apart ["p", "q", "r", "s"] (defScope s_apart) := ⟨rfl, rfl, rfl, by decide +kernel, rfl, by decide +kernel, by decide +kernel⟩
theorem k_apart (F : Dfn K mg "apart" s_apart ["p", "q", "r", "s"]) (c_turn : Cal P w K mg base 1 "turn" (spV (A3 K fun p q r => .int (GlaPlan.turn p q r)))) :
    Cal P w K mg base 2 "apart" (spV (A4 K fun p q r s => .bl (decide (GlaPlan.turn p q r * GlaPlan.turn p q s < 0)))) := by
  refine mk_V F sc_apart (fun vs H v h => h.len) (fun f cdv A' outer s H vs E v hr a => ?_)
  obtain ⟨x, y, z, u, p, q, r, s, rfl, ip, iq, ir, is, rfl⟩ := a
  have m1 : Mono (A3 K fun p q r => .int (GlaPlan.turn p q r)) := A3.mono
  have a1 : A3 K (fun p q r => .int (GlaPlan.turn p q r)) [x, y, z] H (.int (GlaPlan.turn p q r)) := ⟨x, y, z, p, q, r, rfl, ip, iq, ir, rfl⟩
  refine ⟨_, (pss_cons (ps_set (i := 4) sc_apart.nd rfl (Or.inl rfl) (pe_c c_turn hr (by decide) (by rfl) (pa_cons (pv 0) (pa_cons (pv 1) (pa_cons (pv 2) pa_nil)))))
      (pss_cons (ps_set (i := 5) sc_apart.nd rfl (Or.inl rfl) (pe_c c_turn hr (by decide) (by rfl) (pa_cons (pv 0) (pa_cons (pv 1) (pa_cons (pv 3) pa_nil)))))
      (pss_one (ps_ret (pe_or (pe_and (pe_cmpR op_gt (pv 4) pe_int (nomark _)) (pe_one (pe_cmpR op_lt (pv 5) pe_int (nomark _)))) (pe_one (pe_and (pe_cmpR op_lt (pv 4) pe_int (nomark _)) (pe_one (pe_cmpR op_gt (pv 5) pe_int (nomark _)))))))))), fun Q kq => ?_⟩
  replace kq : ∀ H', Ex H H' → Q (.bl (decide (GlaPlan.turn p q r * GlaPlan.turn p q s < 0))) H' := kq
  rw [← apart_eq] at kq
  apply q_asg
  · walk_at "ev"
  · intro H1 e1
    have a2 : A3 K (fun p q r => .int (GlaPlan.turn p q r)) [x, y, u] H1 (.int (GlaPlan.turn p q s)) := ⟨x, y, u, p, q, s, rfl, ip.mono e1, iq.mono e1, is.mono e1, rfl⟩
    apply q_asg
    · walk_at "ev"
    · intro H2 e2
      apply s_ret
      · walk_at "ev"
      · exact fun H3 e3 => kq H3 ((e1.trans e2).trans e3)
abbrev s_cross : Stmt := topS 23
abbrev N_cross : List Str := ["p", "q", "r", "s"]
theorem sc_cross : FnScope N_cross ["p", "q", "r", "s"] (defScope s_cross) := ⟨rfl, rfl, rfl, by decide +kernel, rfl, by decide +kernel, by decide +kernel⟩
theorem k_cross (F : Dfn K mg "cross" s_cross ["p", "q", "r", "s"]) (c_apart : Cal P w K mg base 2 "apart" (spV (A4 K fun p q r s => .bl (decide (GlaPlan.turn p q r * GlaPlan.turn p q s < 0))))) :
    Cal P w K mg base 3 "cross" (spV (A4 K fun p q r s => .bl (GlaPlan.crosses p q r s))) := by
  refine mk_V F sc_cross (fun vs H v h => h.len) (fun f cdv A' outer s H vs E v hr a => ?_)
  obtain ⟨x, y, z, u, p, q, r, s, rfl, ip, iq, ir, is, rfl⟩ := a
  have m1 : Mono (A4 K fun p q r s => .bl (decide (GlaPlan.turn p q r * GlaPlan.turn p q s < 0))) := A4.mono
  have a1 : A4 K (fun p q r s => .bl (decide (GlaPlan.turn p q r * GlaPlan.turn p q s < 0))) [x, y, z, u] H (.bl (decide (GlaPlan.turn p q r * GlaPlan.turn p q s < 0))) := ⟨x, y, z, u, p, q, r, s, rfl, ip, iq, ir, is, rfl⟩
  have a2 : A4 K (fun p q r s => .bl (decide (GlaPlan.turn p q r * GlaPlan.turn p q s < 0))) [z, u, x, y] H (.bl (decide (GlaPlan.turn r s p * GlaPlan.turn r s q < 0))) := ⟨z, u, x, y, r, s, p, q, rfl, ir, is, ip, iq, rfl⟩
  refine ⟨_, (pss_one (ps_ret (pe_and (pe_c c_apart hr (by decide) (by rfl) (pa_cons (pv 0) (pa_cons (pv 1) (pa_cons (pv 2) (pa_cons (pv 3) pa_nil))))) (pe_one (pe_c c_apart hr (by decide) (by rfl) (pa_cons (pv 2) (pa_cons (pv 3) (pa_cons (pv 0) (pa_cons (pv 1) pa_nil))))))))), fun Q kq => ?_⟩
  apply s_ret
  · walk_at "ev"
  · exact kq
def A2 (K : PySem.W.Frag) (f : Pt → Pt → V) : List V → Hp → V → Prop := fun vs H v => ∃ (x y : V) (p q : Pt), vs = [x, y] ∧ isPt K p x H ∧ isPt K q y H ∧ v = f p q
theorem A2.mono {f : Pt → Pt → V} : Mono (A2 K f) := fun vs H H' v e ⟨x, y, p, q, h, h1, h2, h4⟩ => ⟨x, y, p, q, h, h1.mono e, h2.mono e, h4⟩
theorem A2.len {f : Pt → Pt → V} {vs : List V} {H : Hp} {v : V} (h : A2 K f vs H v) : vs.length = 2 := by
  obtain ⟨x, y, p, q, rfl, _⟩ := h; rfl
theorem behind_eq (p q : Pt) : (decide ((q.y : Int) < p.y) || (decide ((p.y : Int) = q.y) && decide ((q.x : Int) < p.x))) = q.below p := by
  rw [Bool.eq_iff_iff]
  simp only [Pt.below, Bool.or_eq_true, Bool.and_eq_true, decide_eq_true_eq, beq_iff_eq]
  omega
abbrev s_comes_behind : Stmt := topS 24
abbrev N_comes_behind : List Str := ["p", "q"]
theorem sc_comes_behind : FnScope N_comes_behind ["p", "q"] (defScope s_comes_behind) := ⟨rfl, rfl, rfl, by decide +kernel, rfl, by decide +kernel, by decide +kernel⟩
theorem k_comes_behind (F : Dfn K mg "comes_behind" s_comes_behind ["p", "q"]) : Cal P w K mg base 1 "comes_behind" (spV (A2 K fun p q => .bl (q.below p))) := by
  refine mk_V F sc_comes_behind (fun vs H v h => h.len) (fun f cdv A' outer s H vs E v hr a => ?_)
  obtain ⟨x, y, p, q, rfl, ⟨hp, a1, rfl, h1⟩, ⟨hq, a2, rfl, h2⟩, rfl⟩ := a
  refine ⟨_, (pss_one (ps_ret (pe_cmpR (op_gt2 hr.units0) (pe_tup (pa_cons (pe_ix ix_tup (pv 0) pe_int (fun _ _ => rfl)) (pa_cons (pe_ix ix_tup (pv 0) pe_int (fun _ _ => rfl)) pa_nil))) (pe_tup (pa_cons (pe_ix ix_tup (pv 1) pe_int (fun _ _ => rfl)) (pa_cons (pe_ix ix_tup (pv 1) pe_int (fun _ _ => rfl)) pa_nil))) (nomark _)))), fun Q kq => ?_⟩
  replace kq : ∀ H', Ex H H' → Q (.bl (q.below p)) H' := kq
  rw [← behind_eq] at kq
  apply s_ret
  · refine ev_cmp2UU (i := p.y) (j := p.x) (k := q.y) (l := q.x) (eu_tup ?_ (by simp)) (eu_tup ?_ (by simp))
    · walk_at "ev"
    · walk_at "ev"
  · exact kq
end
end Hl
end PHl1

section PHl2
set_option Elab.async false
set_option linter.all false
set_option maxRecDepth 100000
set_option maxHeartbeats 2000000
local macro_rules | `(tactic| walk_at "ev") => `(tactic| (first
  | exact Evl.ev_c
  | exact Evl.ev_var rfl
  | (apply Hl.ev_I0 <;> walk_at "ev")
  | (apply Hl.ev_I <;> walk_at "ev")
  | (apply Hl.ev_ixT <;> walk_at "ev")
  | (apply Hl.ev_ixL <;> walk_at "ev")
  | exact Evl.ea_nil
  | (apply Evl.ea_cons <;> walk_at "ev")
  | (apply Hl.ev_callV <;> first | assumption | walk_at "ev")
  | (apply Hl.ev_eq <;> walk_at "ev")
  | (apply Hl.ev_ne <;> walk_at "ev")
  | (apply Hl.ev_fld <;> first | assumption | walk_at "ev")
  | (apply Hl.ev_lenL <;> first | assumption | walk_at "ev")
  | (apply Hl.ev_chain <;> first | (refine fun (_ : _ = _) => ?_; walk_at "ev") | walk_at "ev")
  | (apply Evl.ev_orV <;> first | (refine fun (_ : _ = _) => ?_; walk_at "ev") | walk_at "ev")
  | (apply Evl.ev_andV <;> first | (refine fun (_ : _ = _) => ?_; walk_at "ev") | walk_at "ev")
  | (apply Evl.ev_notV <;> walk_at "ev")
  | (apply Evl.et_test <;> walk_at "ev")
  | (apply Evl.et_B <;> walk_at "ev")
  | (apply Evl.et_not <;> walk_at "ev")
  | (apply Evl.et_and <;> first | (refine fun (_ : _ = _) => ?_; walk_at "ev") | walk_at "ev")
  | (apply Evl.et_or <;> first | (refine fun (_ : _ = _) => ?_; walk_at "ev") | walk_at "ev")
  | assumption
  | (exact Evl.st_of (by assumption))
  | exact rfl
  | skip))

namespace Hl
open PySem PySem.Spec PyProof.Rows L2 Evl
open GlaPlan (Pt Plan)
/-! ### bytes, lists, drawings -/
def byV (b : List UInt8) : List V := b.map fun c => V.int (c.toNat : Int)
def isBy (K : PySem.W.Frag) (b : List UInt8) (v : V) (H : Hp) : Prop := b.length ≤ 200000 ∧ ∃ a, v = .ref a ∧ SqL K H a (byV b)
theorem isBy.mono {K : PySem.W.Frag} {b : List UInt8} {v : V} {H H' : Hp} (e : Ex H H') (h : isBy K b v H) : isBy K b v H' := ⟨h.1, h.2.imp fun a h => ⟨h.1, ex_l e h.2⟩⟩
/-- the items of a list stand for xs -/
def Its {α : Type} (R : α → V → Hp → Prop) (xs : List α) (vs : List V) (H : Hp) : Prop := vs.length = xs.length ∧ ∀ (i : Nat) (x : α), xs[i]? = some x → ∃ v, vs[i]? = some v ∧ R x v H
def isL {α : Type} (K : PySem.W.Frag) (R : α → V → Hp → Prop) (xs : List α) (v : V) (H : Hp) : Prop := ∃ a vs, v = .ref a ∧ SqL K H a vs ∧ Its R xs vs H
def MonoR {α : Type} (R : α → V → Hp → Prop) : Prop := ∀ x v H H', Ex H H' → R x v H → R x v H'
theorem Its.mono {α : Type} {R : α → V → Hp → Prop} (m : MonoR R) {xs : List α} {vs : List V} {H H' : Hp} (e : Ex H H') (h : Its R xs vs H) : Its R xs vs H' := ⟨h.1, fun i x hx => (h.2 i x hx).imp fun v q => ⟨q.1, m _ _ _ _ e q.2⟩⟩
theorem isL.mono {α : Type} {K : PySem.W.Frag} {R : α → V → Hp → Prop} (m : MonoR R) {xs : List α} {v : V} {H H' : Hp} (e : Ex H H') (h : isL K R xs v H) : isL K R xs v H' := by
  obtain ⟨a, vs, h1, h2, h3⟩ := h
  exact ⟨a, vs, h1, ex_l e h2, h3.mono m e⟩
theorem Its.get {α : Type} {R : α → V → Hp → Prop} {xs : List α} {vs : List V} {H : Hp} (h : Its R xs vs H) {i : Nat} {v : V} (hv : vs[i]? = some v) : ∃ x, xs[i]? = some x ∧ R x v H := by
  have hl := (List.getElem?_eq_some_iff.1 hv).1
  have hx : xs[i]? = some (xs[i]'(by rw [← h.1]; exact hl)) := List.getElem?_eq_getElem _
  obtain ⟨v', h1, h2⟩ := h.2 i _ hx
  rw [hv] at h1
  obtain rfl := Option.some.inj h1
  exact ⟨_, hx, h2⟩
theorem Its.nil {α : Type} {R : α → V → Hp → Prop} {H : Hp} : Its R [] [] H := ⟨rfl, fun i x h => by simp at h⟩
theorem Its.snoc {α : Type} {R : α → V → Hp → Prop} {xs : List α} {vs : List V} {x : α} {v : V} {H : Hp} (h : Its R xs vs H) (r : R x v H) : Its R (xs ++ [x]) (vs ++ [v]) H := by
  refine ⟨by simp [h.1], fun i y hy => ?_⟩
  rcases Nat.lt_or_ge i xs.length with q | q
  · rw [List.getElem?_append_left q] at hy
    obtain ⟨u, h1, h2⟩ := h.2 i y hy
    exact ⟨u, by rw [List.getElem?_append_left (by rw [h.1]; exact q)]; exact h1, h2⟩
  · rw [List.getElem?_append_right q] at hy
    have : i - xs.length = 0 := by
      rcases Nat.eq_zero_or_pos (i - xs.length) with z | z
      · exact z
      · rw [List.getElem?_eq_none (by simp; omega)] at hy; cases hy
    rw [this] at hy
    obtain rfl : x = y := by simpa using hy
    exact ⟨v, by rw [List.getElem?_append_right (by rw [h.1]; exact q), h.1, this]; rfl, r⟩
theorem monoPt {K : PySem.W.Frag} : MonoR (isPt K) := fun _ _ _ _ e h => h.mono e
theorem monoPr {K : PySem.W.Frag} : MonoR (isPr K) := fun _ _ _ _ e h => h.mono e
/-- an object with these fields -/
def isDr (K : PySem.W.Frag) (C : Addr) (S : Plan) (v : V) (H : Hp) : Prop := ∃ (a dx : Addr) (fs : List (Str × V)) (vp vl vm : V), v = .ref a ∧ H a = some (.ins C dx fs) ∧
  fs.lookup ("width" : Str) = some (.int S.w) ∧ fs.lookup ("height" : Str) = some (.int S.h) ∧ fs.lookup ("points" : Str) = some vp ∧ fs.lookup ("lines" : Str) = some vl ∧ fs.lookup ("marks" : Str) = some vm ∧
  isL K (isPt K) S.pts vp H ∧ isL K (isPr K) S.lines vl H ∧ isL K (isPt K) (S.marks.map fun m => m.at_) vm H
theorem isDr.mono {K : PySem.W.Frag} {C : Addr} {S : Plan} {v : V} {H H' : Hp} (e : Ex H H') (h : isDr K C S v H) : isDr K C S v H' := by
  obtain ⟨a, dx, fs, vp, vl, vm, h1, h2, h3, h4, h5, h6, h7, h8, h9, h10⟩ := h
  exact ⟨a, dx, fs, vp, vl, vm, h1, e _ _ h2, h3, h4, h5, h6, h7, h8.mono monoPt e, h9.mono monoPr e, h10.mono monoPt e⟩
/-- what the class Drawing is -/
structure DrC (K : PySem.W.Frag) (C : Addr) : Prop where
  cl : Cls K C
  n1 : NoAttr K C "width"
  n2 : NoAttr K C "height"
  n3 : NoAttr K C "points"
  n4 : NoAttr K C "lines"
  n5 : NoAttr K C "marks"
section
variable {P : Program} {w : World} {K : PySem.W.Frag} {mg : Str → Option Value} {base : Heap} {C : Addr}
/-! ### number_at -/
theorem num_bound : ∀ (l : List UInt8), GlaBase.numLe l < 256 ^ l.length
  | [] => by simp [GlaBase.numLe]
  | c :: r => by
    have := num_bound r
    have hc := c.toNat_lt
    rw [GlaBase.numLe, List.length_cons, Nat.pow_succ]
    omega
theorem num_lt4 (b : List UInt8) (p s : Nat) (h : s ≤ 4) : GlaBase.num b p s < 4294967296 := by
  have h1 := num_bound ((b.drop p).take s)
  have h2 : ((b.drop p).take s).length ≤ 4 := by rw [List.length_take]; omega
  have h3 : 256 ^ ((b.drop p).take s).length ≤ 256 ^ 4 := Nat.pow_le_pow_right (by decide) h2
  have h4 : (256 : Nat) ^ 4 = 4294967296 := by decide
  rw [GlaBase.num]; omega
def Anum (K : PySem.W.Frag) : List V → Hp → V → Prop := fun vs H v => ∃ (x : V) (b : List UInt8) (p s : Nat), vs = [x, .int p, .int s] ∧ isBy K b x H ∧ s ≤ 4 ∧ v = .int (GlaBase.num b p s : Nat)
theorem Anum.mono : Mono (Anum K) := fun vs H H' v e ⟨x, b, p, s, h, h1, h2⟩ => ⟨x, b, p, s, h, h1.mono e, h2⟩
theorem byV_cut (b : List UInt8) (p s : Nat) : cutV (byV b) (some (p : Int)) (some ((p : Int) + s)) = byV ((b.drop p).take s) := by
  have := cut_nat (byV b) p (p + s)
  rw [show ((p + s : Nat) : Int) = (p : Int) + s by omega] at this
  rw [this, byV, byV, List.map_take, List.map_drop]
  congr 1; omega
abbrev s_number_at : Stmt := topS 6
abbrev N_number_at : List Str := ["cartoon", "place", "size", "number", "byte"]
theorem sc_number_at : FnScope N_number_at ["cartoon", "place", "size"] (defScope s_number_at) := ⟨rfl, rfl, rfl, by decide +kernel, rfl, by decide +kernel, by decide +kernel⟩
theorem k_number_at (T : Txt K mg) (F : Dfn K mg "number_at" s_number_at ["cartoon", "place", "size"]) : Cal P w K mg base 1 "number_at" (spV (Anum K)) := by
  refine mk_V F sc_number_at (fun vs H v h => by obtain ⟨_, _, _, _, rfl, _⟩ := h; rfl) (fun f cdv A' outer s H vs E v hr a => ?_)
  obtain ⟨x, b, p, sz, rfl, ⟨hb, l, rfl, hl⟩, hs, rfl⟩ := a
  refine ⟨_, (pss_cons (ps_set (i := 3) sc_number_at.nd rfl (Or.inl rfl) pe_int)
      (pss_cons (ps_for PassesOwn.never rfl (pi_reversed (by rfl) T.reversed (pa_cons (pe_slice sl_list (pv 0) (po_some (pv 1)) (po_some (pe_op op_add (pv 1) (pv 2)))) pa_nil)) (pg_name (i := 4) sc_number_at.nd rfl (Or.inl rfl))
        (pss_one (ps_set (i := 3) sc_number_at.nd rfl (Or.inl rfl) (pe_op op_add (pe_op op_mul (pv 3) pe_int) (pv 4)))))
      (pss_one (ps_ret (pv 3))))), fun Q kq => ?_⟩
  apply q_asg
  · walk_at "ev"
  · intro H1 e1
    have sl : EvL (tSl (rSlL K) (tVar 0) (tPart (tVar 1)) (tPart (tOp (rI0 fun i j => .int (i + j)) (tVar 1) (tVar 2)))) ((L2.start N_number_at [.ref l, .int p, .int sz]).set 3 (some (.int 0))) H1 (byV ((b.drop p).take sz)) := by
      rw [← byV_cut]
      refine el_sl (te := tVar 0) (a := l) (ev_var rfl) (eo_some (ev_var rfl)) (eo_some (ev_I0 (g := fun i j => .int (i + j)) (ev_var rfl) (ev_var rfl))) (ex_l e1 hl)
    refine sl H1 (Ex.refl H1) _ fun q H2 hq e2 h2 => ⟨q, _, rfl, sq_of h2, ?_⟩
    have ln : (byV ((b.drop p).take sz)).length = ((b.drop p).take sz).length := by rw [byV, List.length_map]
    generalize hz : (b.drop p).take sz = z at *
    refine for_it walk_rev (fun i σ H' => ∃ y, σ = [some (.ref l), some (.int p), some (.int sz), some (.int (GlaBase.numLe (z.drop (z.length - i)) : Nat)), y] ∧ Ex H2 H') ⟨none, by simp [GlaBase.numLe]; rfl, Ex.refl H2⟩
      (fun i σ H' _ h => by obtain ⟨y, _, e⟩ := h; exact sq_of (e _ _ h2)) ?_ ?_
    · rintro i x σ H3 H4 hi ⟨y, rfl, e3⟩ ⟨rfl, hx⟩
      rw [ln] at hi hx
      rw [byV, List.getElem?_map] at hx
      have hlt : z.length - 1 - i < z.length := by omega
      rw [List.getElem?_eq_getElem hlt] at hx
      obtain rfl := Option.some.inj hx
      have nb : GlaBase.numLe (z.drop (z.length - i)) < 4294967296 := by
        have h1 := num_bound (z.drop (z.length - i))
        have h2 : (z.drop (z.length - i)).length ≤ 4 := by
          have : z.length ≤ 4 := by rw [← hz, List.length_take]; omega
          rw [List.length_drop]; omega
        have h3 : 256 ^ (z.drop (z.length - i)).length ≤ 256 ^ 4 := Nat.pow_le_pow_right (by decide) h2
        have h4 : (256 : Nat) ^ 4 = 4294967296 := by decide
        omega
      apply s_asg
      · walk_at "ev"
        exact .inl (by omega)
      · intro H5 e5
        refine ⟨some (.int (z[z.length - 1 - i].toNat : Int)), ?_, e3.trans e5⟩
        have e : GlaBase.numLe (z.drop (z.length - (i + 1))) = z[z.length - 1 - i].toNat + 256 * GlaBase.numLe (z.drop (z.length - i)) := by
          rw [show z.length - (i + 1) = z.length - 1 - i by omega, List.drop_eq_getElem_cons hlt, GlaBase.numLe, show z.length - 1 - i + 1 = z.length - i by omega]
        have e' : ((GlaBase.numLe (z.drop (z.length - i)) : Nat) : Int) * 256 + ((z[z.length - 1 - i].toNat : Nat) : Int) = ((GlaBase.numLe (z.drop (z.length - (i + 1))) : Nat) : Int) := by rw [e]; omega
        rw [e']; rfl
    · rintro σ H3 ⟨y, rfl, e3⟩
      dsimp only
      apply s_ret
      · walk_at "ev"
      · intro H4 e4
        rw [ln, Nat.sub_self, List.drop_zero, ← hz]
        exact kq H4 (((e1.trans e2).trans e3).trans e4)
end
end Hl
end PHl2

section PRl2
set_option Elab.async false
set_option linter.all false
set_option maxRecDepth 100000
set_option maxHeartbeats 2000000
namespace Hl
open PySem PySem.Spec PyProof.Rows L2 Evl
/-- a new object at a new address -/
def EvF (te : TE) (σ : L2.St) (H : Hp) (R : Addr → Hp → Prop) : Prop := ∀ H1, Ex H H1 → ∀ Q : VK, (∀ p H2, H1 p = none → Ex H1 H2 → R p H2 → Q (.ref p) H2) → te σ H1 Q
section
variable {K : PySem.W.Frag} {σ : L2.St} {H H' : Hp} {ta tb te : TE} {tt : TT} {tr : TA} {v : V} {vs : List Nat} {D : Ends} {tz : TS}
/-- what a list has does not matter to it -/
def StabL {α : Type} (R : α → V → Hp → Prop) : Prop := ∀ x v (H : Hp) D us us', H D = some (.lst us) → R x v H → R x v (upd H D (.lst us'))
theorem stab_t {H : Hp} {D a : Addr} {us us' xs : List V} (h : H D = some (.lst us)) (q : SqT K H a xs) : SqT K (upd H D (.lst us')) a xs := by
  rcases q with (q | ⟨o, q⟩) | q
  · refine .inl (.inl ?_)
    rw [upd_ne]; · exact q
    rintro rfl; rw [h] at q; cases q
  · refine .inl (.inr ⟨o, ?_⟩)
    rw [upd_ne]; · exact q
    rintro rfl; rw [h] at q; cases q
  · exact .inr q
theorem stabPt : StabL (isPt K) := fun _ _ _ _ _ _ h q => ⟨q.1, q.2.imp fun a z => ⟨z.1, stab_t h z.2⟩⟩
theorem stabPr : StabL (isPr K) := fun _ _ _ _ _ _ h q => q.imp fun a z => ⟨z.1, by
  rw [upd_ne (by rintro rfl; rw [h] at z; cases z.2)]; exact z.2⟩
def isI (n : Nat) (v : V) (_ : Hp) : Prop := v = .int (n : Int)
theorem monoI : MonoR isI := fun _ _ _ _ _ h => h
theorem stabI : StabL isI := fun _ _ _ _ _ _ _ h => h
theorem EvF.r {R : Addr → Hp → Prop} {R' : V → Hp → Prop} (h : EvF te σ H R) (k : ∀ p H', R p H' → R' (.ref p) H') : EvR te σ H R' := fun H1 e Q q => h H1 e Q fun p H2 _ e2 r => q _ H2 e2 (k p H2 r)
theorem EvF.mono {R : Addr → Hp → Prop} (e : Ex H H') (h : EvF te σ H R) : EvF te σ H' R := fun H1 a Q q => h H1 (e.trans a) Q q
theorem ef_l {xs : List V} (h : EvL te σ H xs) : EvF te σ H (fun p H' => H' p = some (.lst xs)) := fun H1 e Q q => h H1 e Q fun p H2 hp e2 h2 => q p H2 hp e2 h2
theorem ef_u {xs : List V} (h : EvU te σ H xs) : EvF te σ H (fun p H' => H' p = some (.tup xs)) := fun H1 e Q q => h H1 e Q fun p H2 hp e2 h2 => q p H2 hp e2 h2
/-! statements with such a value -/
theorem q_asgX {i : Nat} (h : te σ H (fun v H1 => tz D (σ.set i (some v)) H1)) : tSeq (tAsg te (gName i)) tz D σ H := h
theorem q_asgR {i : Nat} {R : V → Hp → Prop} (h : EvR te σ H R) (k : ∀ v H1, Ex H H1 → R v H1 → tz D (σ.set i (some v)) H1) : tSeq (tAsg te (gName i)) tz D σ H := h H (Ex.refl H) _ fun v H1 e r => k v H1 e r
theorem q_asgF {i : Nat} {R : Addr → Hp → Prop} (h : EvF te σ H R) (k : ∀ p H1, H p = none → Ex H H1 → R p H1 → tz D (σ.set i (some (.ref p))) H1) : tSeq (tAsg te (gName i)) tz D σ H := h H (Ex.refl H) _ fun p H1 hp e r => k p H1 hp e r
theorem s_asgR {i : Nat} {R : V → Hp → Prop} (h : EvR te σ H R) (k : ∀ v H1, Ex H H1 → R v H1 → D.nx (σ.set i (some v)) H1) : tAsg te (gName i) D σ H := h H (Ex.refl H) _ fun v H1 e r => k v H1 e r
theorem s_retR {R : V → Hp → Prop} (h : EvR te σ H R) (k : ∀ v H1, Ex H H1 → R v H1 → D.rt v H1) : tRet te D σ H := h H (Ex.refl H) _ k
theorem s_retF {R : Addr → Hp → Prop} (h : EvF te σ H R) (k : ∀ p H1, H p = none → Ex H H1 → R p H1 → D.rt (.ref p) H1) : tRet te D σ H := h H (Ex.refl H) _ k
/-- arguments one of which is of such a kind -/
theorem ea_consR {R : V → Hp → Prop} {A : List V → Hp → Prop} (h : EvR te σ H R) (hr : ∀ v H1, Ex H H1 → R v H1 → ∀ H2, Ex H1 H2 → ∀ Q : List V → Hp → Prop, (∀ us H3, Ex H2 H3 → A (v :: us) H3 → Q us H3) → tr σ H2 Q) :
    ∀ H1, Ex H H1 → ∀ Q : List V → Hp → Prop, (∀ us H2, Ex H1 H2 → A us H2 → Q us H2) → tCons te tr σ H1 Q := fun H1 e Q q =>
  h H1 e _ fun v H2 e2 r => hr v H2 (e.trans e2) r H2 (Ex.refl H2) _ fun us H3 e3 a => q _ H3 (e2.trans e3) a

theorem ef_lc {α : Type} {wi : TI} {g : TG} {R : α → V → Hp → Prop} (mR : MonoR R) (sR : StabL R) (n : Nat) (hn : n ≤ 100000) (Y : Nat → Hp → V → Hp → Prop) (L : Nat → List α) (h0 : L 0 = []) (hL : ∀ i, i ≤ n → (L i).length ≤ i)
    (hw : ∀ H0, Ex H H0 → ∀ Rr : It → Hp → Prop, (∀ J G H1, Walk J n G Y → Ex H0 H1 → (∀ H', Ex H1 H' → G H') → Rr J H1) → wi σ H0 Rr)
    (hs : ∀ i x H' H'', Ex H H' → i < n → Y i H' x H'' → ∀ Q : L2.St → Hp → Prop, (∀ σ2 H2, Ex H' H2 → wipe σ2 vs = wipe σ vs →
      ((∃ a, EvT tt σ2 H2 true ∧ EvR te σ2 H2 (R a) ∧ L (i + 1) = L i ++ [a]) ∨ (EvT tt σ2 H2 false ∧ L (i + 1) = L i)) → Q σ2 H2) → g x (wipe σ vs) H'' Q) :
    EvF (tLc wi g tt te vs) σ H (fun p H' => ∃ us, H' p = some (.lst us) ∧ Its R (L n) us H') := fun H0 e Q q =>
  hw H0 e _ fun J G H1 w e1 hG Dl hD => lc_it w (fun i H' => ∃ us, H' Dl = some (.lst us) ∧ Its R (L i) us H' ∧ Ex H1 H') ⟨[], upd_same, by rw [h0]; exact Its.nil, Ex.new hD⟩
    (fun i H' _ ⟨us, _, _, e'⟩ => hG H' e')
    (fun i x H2 H3 hi ⟨us, hu, hI, e2⟩ y => hs i x H2 H3 ((e.trans e1).trans e2) hi y _ fun σ2 H4 e4 hw2 alt => ⟨hw2, by
      have lu : us.length < sizeLine := by
        have := hL i (Nat.le_of_lt hi)
        rw [hI.1]
        exact sz_lt (by omega)
      rcases alt with ⟨a, ht, he, hL'⟩ | ⟨ht, hL'⟩
      · refine ht H4 (Ex.refl H4) _ fun H5 e5 => ?_
        rw [if_pos rfl]
        refine he H5 e5 _ fun v H6 e6 r => ⟨us, ((e4.trans e5).trans e6) _ _ hu, lu, us ++ [v], upd_same, ?_, Ex.mut (e2.trans ((e4.trans e5).trans e6)) hD⟩
        rw [hL']
        have hD6 : H6 Dl = some (.lst us) := ((e4.trans e5).trans e6) _ _ hu
        have I6 : Its R (L i ++ [a]) (us ++ [v]) H6 := (hI.mono mR ((e4.trans e5).trans e6)).snoc r
        exact ⟨I6.1, fun i x hx => (I6.2 i x hx).imp fun v q => ⟨q.1, sR _ _ _ _ _ _ hD6 q.2⟩⟩
      · refine ht H4 (Ex.refl H4) _ fun H5 e5 => ?_
        rw [if_neg Bool.false_ne_true]
        refine ⟨us, (e4.trans e5) _ _ hu, ?_, e2.trans (e4.trans e5)⟩
        rw [hL']
        exact hI.mono mR (e4.trans e5)⟩)
    (fun H' ⟨us, hu, hI, e2⟩ => q Dl H' (fresh_back e1 hD) (e1.trans e2) ⟨us, hu, hI⟩)
end
end Hl
end PRl2

section PHl3
set_option Elab.async false
set_option linter.all false
set_option maxRecDepth 100000
set_option maxHeartbeats 2000000
local macro_rules | `(tactic| walk_at "ev") => `(tactic| (first
  | exact Evl.ev_c
  | exact Evl.ev_var rfl
  | (apply Hl.ev_I0 <;> walk_at "ev")
  | (apply Hl.ev_I <;> walk_at "ev")
  | (apply Hl.ev_ixT <;> walk_at "ev")
  | (apply Hl.ev_ixL <;> walk_at "ev")
  | exact Evl.ea_nil
  | (apply Evl.ea_cons <;> walk_at "ev")
  | (apply Hl.ev_callV <;> first | assumption | walk_at "ev")
  | (apply Hl.ev_eq <;> walk_at "ev")
  | (apply Hl.ev_ne <;> walk_at "ev")
  | (apply Hl.ev_fld <;> first | assumption | walk_at "ev")
  | (apply Hl.ev_lenL <;> first | assumption | walk_at "ev")
  | (apply Hl.ev_chain <;> first | (refine fun (_ : _ = _) => ?_; walk_at "ev") | walk_at "ev")
  | (apply Evl.ev_orV <;> first | (refine fun (_ : _ = _) => ?_; walk_at "ev") | walk_at "ev")
  | (apply Evl.ev_andV <;> first | (refine fun (_ : _ = _) => ?_; walk_at "ev") | walk_at "ev")
  | (apply Evl.ev_notV <;> walk_at "ev")
  | (apply Evl.et_test <;> walk_at "ev")
  | (apply Evl.et_B <;> walk_at "ev")
  | (apply Evl.et_not <;> walk_at "ev")
  | (apply Evl.et_and <;> first | (refine fun (_ : _ = _) => ?_; walk_at "ev") | walk_at "ev")
  | (apply Evl.et_or <;> first | (refine fun (_ : _ = _) => ?_; walk_at "ev") | walk_at "ev")
  | assumption
  | (exact Evl.st_of (by assumption))
  | exact rfl
  | skip))

namespace Hl
open PySem PySem.Spec PyProof.Rows L2 Evl
open GlaPlan (Pt Plan)
section
variable {P : Program} {w : World} {K : PySem.W.Frag} {mg : Str → Option Value} {base : Heap} {C : Addr}
abbrev ptAt (b : List UInt8) (p s : Nat) : Nat × Nat := (GlaBase.num b p s, GlaBase.num b (p + s) s)
def Apair (K : PySem.W.Frag) : List V → Hp → (V → Hp → Prop) → Prop := fun vs H R => ∃ (x : V) (b : List UInt8) (p s : Nat), vs = [x, .int p, .int s] ∧ isBy K b x H ∧ s ≤ 4 ∧ R = isPr K (ptAt b p s)
theorem Apair.mono : Mono (Apair K) := fun vs H H' v e ⟨x, b, p, s, h, h1, h2⟩ => ⟨x, b, p, s, h, h1.mono e, h2⟩
abbrev s_pair_at : Stmt := topS 7
abbrev N_pair_at : List Str := ["cartoon", "place", "size"]
theorem sc_pair_at : FnScope N_pair_at ["cartoon", "place", "size"] (defScope s_pair_at) := ⟨rfl, rfl, rfl, by decide +kernel, rfl, by decide +kernel, by decide +kernel⟩
theorem k_pair_at (F : Dfn K mg "pair_at" s_pair_at ["cartoon", "place", "size"]) (c_number_at : Cal P w K mg base 1 "number_at" (spV (Anum K))) : Cal P w K mg base 2 "pair_at" (spR (Apair K)) := by
  refine mk_R F sc_pair_at (fun vs H v h => by obtain ⟨_, _, _, _, rfl, _⟩ := h; rfl) (fun f cdv A' outer s H vs E v hr a => ?_)
  obtain ⟨x, b, p, sz, rfl, ib, hs, rfl⟩ := a
  have m1 : Mono (Anum K) := Anum.mono
  have a1 : Anum K [x, .int p, .int sz] H (.int (GlaBase.num b p sz : Nat)) := ⟨x, b, p, sz, rfl, ib, hs, rfl⟩
  have a2 : Anum K [x, .int ((p : Int) + sz), .int sz] H (.int (GlaBase.num b (p + sz) sz : Nat)) := ⟨x, b, p + sz, sz, by simp, ib, hs, rfl⟩
  refine ⟨_, (pss_one (ps_ret (pe_tup (pa_cons (pe_c c_number_at hr (by decide) (by rfl) (pa_cons (pv 0) (pa_cons (pv 1) (pa_cons (pv 2) pa_nil)))) (pa_cons (pe_c c_number_at hr (by decide) (by rfl) (pa_cons (pv 0) (pa_cons (pe_op op_add (pv 1) (pv 2)) (pa_cons (pv 2) pa_nil)))) pa_nil))))), fun Q kq => ?_⟩
  apply s_retU
  · apply eu_tup
    · walk_at "ev"
    · simp
  · exact fun q H1 hq e1 h1 => kq _ H1 e1 ⟨q, rfl, h1⟩
/-! ### the places of parts -/
def Abyt (K : PySem.W.Frag) (f : List UInt8 → Nat) : List V → Hp → V → Prop := fun vs H v => ∃ (x : V) (b : List UInt8), vs = [x] ∧ isBy K b x H ∧ v = .int (f b : Nat)
theorem Abyt.mono {f : List UInt8 → Nat} : Mono (Abyt K f) := fun vs H H' v e ⟨x, b, h, h1, h2⟩ => ⟨x, b, h, h1.mono e, h2⟩
theorem Abyt.len {f : List UInt8 → Nat} {vs : List V} {H : Hp} {v : V} (h : Abyt K f vs H v) : vs.length = 1 := by obtain ⟨_, _, rfl, _⟩ := h; rfl
def linesAt (b : List UInt8) : Nat := 20 + 8 * GlaBase.num b 12 2
def marksAt (b : List UInt8) : Nat := linesAt b + 4 * GlaBase.num b 14 2
def sizeAt (b : List UInt8) : Nat := marksAt b + 12 * GlaBase.num b 16 2
theorem cmul8 {j : Int} : CMul 8 j := .inl (by decide)
theorem cmul4 {j : Int} : CMul 4 j := .inl (by decide)
theorem cmul12 {j : Int} : CMul 12 j := .inl (by decide)
abbrev s_lines_begin : Stmt := topS 8
abbrev N_lines_begin : List Str := ["cartoon"]
theorem sc_lines_begin : FnScope N_lines_begin ["cartoon"] (defScope s_lines_begin) := ⟨rfl, rfl, rfl, by decide +kernel, rfl, by decide +kernel, by decide +kernel⟩
theorem k_lines_begin (T : Txt K mg) (F : Dfn K mg "lines_begin" s_lines_begin ["cartoon"]) (c_number_at : Cal P w K mg base 1 "number_at" (spV (Anum K))) : Cal P w K mg base 2 "lines_begin" (spV (Abyt K linesAt)) := by
  refine mk_V F sc_lines_begin (fun vs H v h => h.len) (fun f cdv A' outer s H vs E v hr a => ?_)
  obtain ⟨x, b, rfl, ib, rfl⟩ := a
  have m1 : Mono (Anum K) := Anum.mono
  have a1 : Anum K [x, .int 12, .int 2] H (.int (GlaBase.num b 12 2 : Nat)) := ⟨x, b, 12, 2, rfl, ib, by decide, rfl⟩
  refine ⟨_, (pss_one (ps_ret (pe_op op_add (pe_gc (by rfl) T.g_HEAD_SIZE) (pe_op op_mul (pe_gc (by rfl) T.g_POINT_SIZE) (pe_c c_number_at hr (by decide) (by rfl) (pa_cons (pv 0) (pa_cons pe_int (pa_cons pe_int pa_nil)))))))), fun Q kq => ?_⟩
  apply s_ret
  · walk_at "ev"
    exact cmul8
  · intro H1 e1
    have e : (20 : Int) + 8 * ((GlaBase.num b 12 2 : Nat) : Int) = ((linesAt b : Nat) : Int) := by rw [linesAt]; omega
    rw [e]; exact kq H1 e1
abbrev s_marks_begin : Stmt := topS 9
abbrev N_marks_begin : List Str := ["cartoon"]
theorem sc_marks_begin : FnScope N_marks_begin ["cartoon"] (defScope s_marks_begin) := ⟨rfl, rfl, rfl, by decide +kernel, rfl, by decide +kernel, by decide +kernel⟩
theorem k_marks_begin (T : Txt K mg) (F : Dfn K mg "marks_begin" s_marks_begin ["cartoon"]) (c_number_at : Cal P w K mg base 1 "number_at" (spV (Anum K))) (c_lines_begin : Cal P w K mg base 2 "lines_begin" (spV (Abyt K linesAt))) : Cal P w K mg base 3 "marks_begin" (spV (Abyt K marksAt)) := by
  refine mk_V F sc_marks_begin (fun vs H v h => h.len) (fun f cdv A' outer s H vs E v hr a => ?_)
  obtain ⟨x, b, rfl, ib, rfl⟩ := a
  have m1 : Mono (Anum K) := Anum.mono
  have m2 : Mono (Abyt K linesAt) := Abyt.mono
  have a1 : Anum K [x, .int 14, .int 2] H (.int (GlaBase.num b 14 2 : Nat)) := ⟨x, b, 14, 2, rfl, ib, by decide, rfl⟩
  have a2 : Abyt K linesAt [x] H (.int (linesAt b : Nat)) := ⟨x, b, rfl, ib, rfl⟩
  refine ⟨_, (pss_one (ps_ret (pe_op op_add (pe_c c_lines_begin hr (by decide) (by rfl) (pa_cons (pv 0) pa_nil)) (pe_op op_mul (pe_gc (by rfl) T.g_LINE_SIZE) (pe_c c_number_at hr (by decide) (by rfl) (pa_cons (pv 0) (pa_cons pe_int (pa_cons pe_int pa_nil)))))))), fun Q kq => ?_⟩
  apply s_ret
  · walk_at "ev"
    exact cmul4
  · intro H1 e1
    have e : ((linesAt b : Nat) : Int) + 4 * ((GlaBase.num b 14 2 : Nat) : Int) = ((marksAt b : Nat) : Int) := by rw [marksAt]; omega
    rw [e]; exact kq H1 e1
abbrev s_asked_size : Stmt := topS 10
abbrev N_asked_size : List Str := ["cartoon"]
theorem sc_asked_size : FnScope N_asked_size ["cartoon"] (defScope s_asked_size) := ⟨rfl, rfl, rfl, by decide +kernel, rfl, by decide +kernel, by decide +kernel⟩
theorem k_asked_size (T : Txt K mg) (F : Dfn K mg "asked_size" s_asked_size ["cartoon"]) (c_number_at : Cal P w K mg base 1 "number_at" (spV (Anum K))) (c_marks_begin : Cal P w K mg base 3 "marks_begin" (spV (Abyt K marksAt))) : Cal P w K mg base 4 "asked_size" (spV (Abyt K sizeAt)) := by
  refine mk_V F sc_asked_size (fun vs H v h => h.len) (fun f cdv A' outer s H vs E v hr a => ?_)
  obtain ⟨x, b, rfl, ib, rfl⟩ := a
  have m1 : Mono (Anum K) := Anum.mono
  have m2 : Mono (Abyt K marksAt) := Abyt.mono
  have a1 : Anum K [x, .int 16, .int 2] H (.int (GlaBase.num b 16 2 : Nat)) := ⟨x, b, 16, 2, rfl, ib, by decide, rfl⟩
  have a2 : Abyt K marksAt [x] H (.int (marksAt b : Nat)) := ⟨x, b, rfl, ib, rfl⟩
  refine ⟨_, (pss_one (ps_ret (pe_op op_add (pe_c c_marks_begin hr (by decide) (by rfl) (pa_cons (pv 0) pa_nil)) (pe_op op_mul (pe_gc (by rfl) T.g_MARK_SIZE) (pe_c c_number_at hr (by decide) (by rfl) (pa_cons (pv 0) (pa_cons pe_int (pa_cons pe_int pa_nil)))))))), fun Q kq => ?_⟩
  apply s_ret
  · walk_at "ev"
    exact cmul12
  · intro H1 e1
    have e : ((marksAt b : Nat) : Int) + 12 * ((GlaBase.num b 16 2 : Nat) : Int) = ((sizeAt b : Nat) : Int) := by rw [sizeAt]; omega
    rw [e]; exact kq H1 e1
def Anat (f : Nat → Nat) : List V → Hp → V → Prop := fun vs _ v => ∃ i : Nat, vs = [.int i] ∧ v = .int (f i : Nat)
theorem Anat.mono {f : Nat → Nat} : Mono (Anat f) := fun _ _ _ _ _ h => h
abbrev s_point_place : Stmt := topS 12
abbrev N_point_place : List Str := ["i"]
theorem sc_point_place : FnScope N_point_place ["i"] (defScope s_point_place) := ⟨rfl, rfl, rfl, by decide +kernel, rfl, by decide +kernel, by decide +kernel⟩
theorem k_point_place (T : Txt K mg) (F : Dfn K mg "point_place" s_point_place ["i"]) : Cal P w K mg base 1 "point_place" (spV (Anat GlaPlan.ptPlace)) := by
  refine mk_V F sc_point_place (fun vs H v h => by obtain ⟨_, rfl, _⟩ := h; rfl) (fun f cdv A' outer s H vs E v hr a => ?_)
  obtain ⟨i, rfl, rfl⟩ := a
  refine ⟨_, (pss_one (ps_ret (pe_op op_add (pe_gc (by rfl) T.g_HEAD_SIZE) (pe_op op_mul (pe_gc (by rfl) T.g_POINT_SIZE) (pv 0))))), fun Q kq => ?_⟩
  apply s_ret
  · walk_at "ev"
    exact cmul8
  · intro H1 e1
    have e : (20 : Int) + 8 * (i : Int) = ((GlaPlan.ptPlace i : Nat) : Int) := by rw [GlaPlan.ptPlace, GlaPlan.HEAD]; omega
    rw [e]; exact kq H1 e1
def Adn (K : PySem.W.Frag) (C : Addr) (f : Plan → Nat → Nat) : List V → Hp → V → Prop := fun vs H v => ∃ (x : V) (S : Plan) (i : Nat), vs = [x, .int i] ∧ isDr K C S x H ∧ v = .int (f S i : Nat)
theorem Adn.mono {f : Plan → Nat → Nat} : Mono (Adn K C f) := fun vs H H' v e ⟨x, S, i, h, h1, h2⟩ => ⟨x, S, i, h, h1.mono e, h2⟩
theorem Adn.len {f : Plan → Nat → Nat} {vs : List V} {H : Hp} {v : V} (h : Adn K C f vs H v) : vs.length = 2 := by obtain ⟨_, _, _, rfl, _⟩ := h; rfl
abbrev s_line_place : Stmt := topS 13
abbrev N_line_place : List Str := ["drawing", "i"]
theorem sc_line_place : FnScope N_line_place ["drawing", "i"] (defScope s_line_place) := ⟨rfl, rfl, rfl, by decide +kernel, rfl, by decide +kernel, by decide +kernel⟩
theorem k_line_place (T : Txt K mg) (D : DrC K C) (F : Dfn K mg "line_place" s_line_place ["drawing", "i"]) (c_point_place : Cal P w K mg base 1 "point_place" (spV (Anat GlaPlan.ptPlace))) : Cal P w K mg base 2 "line_place" (spV (Adn K C GlaPlan.linePlace)) := by
  refine mk_V F sc_line_place (fun vs H v h => h.len) (fun f cdv A' outer s H vs E v hr a => ?_)
  obtain ⟨x, S, i, rfl, id, rfl⟩ := a
  obtain ⟨a, dx, fs, vp, vl, vm, rfl, h2, f1, f2, f3, f4, f5, ⟨lp, us, rfl, hp, ip⟩, il, im⟩ := id
  have cl := D.cl
  have n3 := D.n3
  have m2 : Mono (Anat GlaPlan.ptPlace) := Anat.mono
  have a2 : Anat GlaPlan.ptPlace [.int us.length] H (.int (GlaPlan.ptPlace us.length : Nat)) := ⟨_, rfl, rfl⟩
  refine ⟨_, (pss_one (ps_ret (pe_op op_add (pe_c c_point_place hr (by decide) (by rfl) (pa_cons (pe_callB call_len_seq (by rfl) T.len PySem.boot_len (pa_cons (pe_fld (pv 0) rfl) pa_nil)) pa_nil)) (pe_op op_mul (pe_gc (by rfl) T.g_LINE_SIZE) (pv 1))))), fun Q kq => ?_⟩
  apply s_ret
  · walk_at "ev"
    exact cmul4
  · intro H1 e1
    have e : ((GlaPlan.ptPlace us.length : Nat) : Int) + 4 * (i : Int) = ((GlaPlan.linePlace S i : Nat) : Int) := by
      rw [GlaPlan.ptPlace, GlaPlan.linePlace, ip.1]; omega
    rw [e]; exact kq H1 e1
abbrev s_mark_place : Stmt := topS 14
abbrev N_mark_place : List Str := ["drawing", "i"]
theorem sc_mark_place : FnScope N_mark_place ["drawing", "i"] (defScope s_mark_place) := ⟨rfl, rfl, rfl, by decide +kernel, rfl, by decide +kernel, by decide +kernel⟩
theorem k_mark_place (T : Txt K mg) (D : DrC K C) (F : Dfn K mg "mark_place" s_mark_place ["drawing", "i"]) (c_line_place : Cal P w K mg base 2 "line_place" (spV (Adn K C GlaPlan.linePlace))) : Cal P w K mg base 3 "mark_place" (spV (Adn K C GlaPlan.markPlace)) := by
  refine mk_V F sc_mark_place (fun vs H v h => h.len) (fun f cdv A' outer s H vs E v hr a => ?_)
  obtain ⟨x, S, i, rfl, id, rfl⟩ := a
  have id0 := id
  obtain ⟨a, dx, fs, vp, vl, vm, rfl, h2, f1, f2, f3, f4, f5, ip, ⟨lp, us, rfl, hl, il⟩, im⟩ := id
  have cl := D.cl
  have n4 := D.n4
  have m2 : Mono (Adn K C GlaPlan.linePlace) := Adn.mono
  have a2 : Adn K C GlaPlan.linePlace [.ref a, .int us.length] H (.int (GlaPlan.linePlace S us.length : Nat)) := ⟨_, S, us.length, rfl, id0, rfl⟩
  refine ⟨_, (pss_one (ps_ret (pe_op op_add (pe_c c_line_place hr (by decide) (by rfl) (pa_cons (pv 0) (pa_cons (pe_callB call_len_seq (by rfl) T.len PySem.boot_len (pa_cons (pe_fld (pv 0) rfl) pa_nil)) pa_nil))) (pe_op op_mul (pe_gc (by rfl) T.g_MARK_SIZE) (pv 1))))), fun Q kq => ?_⟩
  apply s_ret
  · walk_at "ev"
    exact cmul12
  · intro H1 e1
    have e : ((GlaPlan.linePlace S us.length : Nat) : Int) + 12 * (i : Int) = ((GlaPlan.markPlace S i : Nat) : Int) := by
      rw [GlaPlan.linePlace, GlaPlan.markPlace, il.1]; omega
    rw [e]; exact kq H1 e1
/-! ### on_frame, other_end -/
def Adp (K : PySem.W.Frag) (C : Addr) (f : Plan → Pt → V) : List V → Hp → V → Prop := fun vs H v => ∃ (x y : V) (S : Plan) (p : Pt), vs = [x, y] ∧ isDr K C S x H ∧ isPt K p y H ∧ v = f S p
theorem Adp.mono {f : Plan → Pt → V} : Mono (Adp K C f) := fun vs H H' v e ⟨x, y, S, p, h, h1, h2, h3⟩ => ⟨x, y, S, p, h, h1.mono e, h2.mono e, h3⟩
theorem Adp.len {f : Plan → Pt → V} {vs : List V} {H : Hp} {v : V} (h : Adp K C f vs H v) : vs.length = 2 := by obtain ⟨_, _, _, _, rfl, _⟩ := h; rfl
theorem frame_eq (S : Plan) (p : Pt) : (inV (.int p.x) [.int 0, .int S.w] || inV (.int p.y) [.int 0, .int S.h]) = (p.x == 0 || (p.x == S.w || (p.y == 0 || p.y == S.h))) := by
  rw [inV_two, inV_two, Bool.eq_iff_iff]
  simp only [Bool.or_eq_true, decide_eq_true_eq, beq_iff_eq]
  omega
abbrev s_on_frame : Stmt := topS 15
abbrev N_on_frame : List Str := ["drawing", "point"]
theorem sc_on_frame : FnScope N_on_frame ["drawing", "point"] (defScope s_on_frame) := ⟨rfl, rfl, rfl, by decide +kernel, rfl, by decide +kernel, by decide +kernel⟩
theorem k_on_frame (D : DrC K C) (F : Dfn K mg "on_frame" s_on_frame ["drawing", "point"]) : Cal P w K mg base 1 "on_frame" (spV (Adp K C fun S p => .bl (p.x == 0 || (p.x == S.w || (p.y == 0 || p.y == S.h))))) := by
  refine mk_V F sc_on_frame (fun vs H v h => h.len) (fun f cdv A' outer s H vs E v hr a => ?_)
  obtain ⟨x, y, S, p, rfl, id, ⟨hp, a1, rfl, h1⟩, rfl⟩ := a
  obtain ⟨a, dx, fs, vp, vl, vm, rfl, h2, f1, f2, f3, f4, f5, ip, il, im⟩ := id
  have cl := D.cl
  have n1 := D.n1
  have n2 := D.n2
  refine ⟨_, (pss_one (ps_ret (pe_or (pe_cmpR op_in_seq (pe_ix ix_tup (pv 1) pe_int (fun _ _ => rfl)) (pe_tup (pa_cons pe_int (pa_cons (pe_fld (pv 0) rfl) pa_nil))) rfl) (pe_one (pe_cmpR op_in_seq (pe_ix ix_tup (pv 1) pe_int (fun _ _ => rfl)) (pe_tup (pa_cons pe_int (pa_cons (pe_fld (pv 0) rfl) pa_nil))) rfl))))), fun Q kq => ?_⟩
  replace kq : ∀ H', Ex H H' → Q (.bl (p.x == 0 || (p.x == S.w || (p.y == 0 || p.y == S.h)))) H' := kq
  rw [← frame_eq] at kq
  apply s_ret
  · apply ev_orV
    · apply ev_inU
      · walk_at "ev"
      · walk_at "ev"
      · simp
      · rfl
      · rfl
    · intro _
      apply ev_inU
      · walk_at "ev"
      · walk_at "ev"
      · simp
      · rfl
      · rfl
  · exact kq
def Apn (K : PySem.W.Frag) (f : Nat × Nat → Nat → V) : List V → Hp → V → Prop := fun vs H v => ∃ (x : V) (l : Nat × Nat) (p : Nat), vs = [x, .int p] ∧ isPr K l x H ∧ v = f l p
theorem Apn.mono {f : Nat × Nat → Nat → V} : Mono (Apn K f) := fun vs H H' v e ⟨x, l, p, h, h2, h3⟩ => ⟨x, l, p, h, h2.mono e, h3⟩
theorem Apn.len {f : Nat × Nat → Nat → V} {vs : List V} {H : Hp} {v : V} (h : Apn K f vs H v) : vs.length = 2 := by obtain ⟨_, _, _, rfl, _⟩ := h; rfl
def otherOf (l : Nat × Nat) (p : Nat) : Nat := if l.1 = p then l.2 else l.1
abbrev s_other_end : Stmt := topS 16
abbrev N_other_end : List Str := ["line", "point"]
theorem sc_other_end : FnScope N_other_end ["line", "point"] (defScope s_other_end) := ⟨rfl, rfl, rfl, by decide +kernel, rfl, by decide +kernel, by decide +kernel⟩
theorem k_other_end (F : Dfn K mg "other_end" s_other_end ["line", "point"]) : Cal P w K mg base 1 "other_end" (spV (Apn K fun l p => .int (otherOf l p : Nat))) := by
  refine mk_V F sc_other_end (fun vs H v h => h.len) (fun f cdv A' outer s H vs E v hr a => ?_)
  obtain ⟨x, l, p, rfl, ⟨a1, rfl, h1⟩, rfl⟩ := a
  refine ⟨_, (pss_one (ps_ret (pe_ifExp (pt_cmpR op_eq (pe_ix ix_tup (pv 0) pe_int (fun _ _ => rfl)) (pv 1) (nomark _)) (pe_ix ix_tup (pv 0) pe_int (fun _ _ => rfl)) (pe_ix ix_tup (pv 0) pe_int (fun _ _ => rfl))))), fun Q kq => ?_⟩
  apply s_ret (v := .int (otherOf l p : Nat))
  · apply ev_if
    · walk_at "ev"
    · intro hb
      have hb' : l.1 = p := by simp at hb; omega
      refine ev_is (v := .int l.2) ?_ (by rw [otherOf, if_pos hb'])
      walk_at "ev"
    · intro hb
      have hb' : ¬ l.1 = p := by simp at hb; omega
      refine ev_is (v := .int l.1) ?_ (by rw [otherOf, if_neg hb'])
      walk_at "ev"
  · exact kq
end
end Hl
end PHl3

section PHl4
set_option Elab.async false
set_option linter.all false
set_option maxRecDepth 100000
set_option maxHeartbeats 2000000
local macro_rules | `(tactic| walk_at "ev") => `(tactic| (first
  | exact Evl.ev_c
  | exact Evl.ev_var rfl
  | (apply Hl.ev_I0 <;> walk_at "ev")
  | (apply Hl.ev_I <;> walk_at "ev")
  | (apply Hl.ev_ixT <;> walk_at "ev")
  | (apply Hl.ev_ixL <;> walk_at "ev")
  | exact Evl.ea_nil
  | (apply Evl.ea_cons <;> walk_at "ev")
  | (apply Hl.ev_callV <;> first | assumption | walk_at "ev")
  | (apply Hl.ev_eq <;> walk_at "ev")
  | (apply Hl.ev_ne <;> walk_at "ev")
  | (apply Hl.ev_fld <;> first | assumption | walk_at "ev")
  | (apply Hl.ev_lenL <;> first | assumption | walk_at "ev")
  | (apply Hl.ev_chain <;> first | (refine fun (_ : _ = _) => ?_; walk_at "ev") | walk_at "ev")
  | (apply Evl.ev_orV <;> first | (refine fun (_ : _ = _) => ?_; walk_at "ev") | walk_at "ev")
  | (apply Evl.ev_andV <;> first | (refine fun (_ : _ = _) => ?_; walk_at "ev") | walk_at "ev")
  | (apply Evl.ev_notV <;> walk_at "ev")
  | (apply Evl.et_test <;> walk_at "ev")
  | (apply Evl.et_B <;> walk_at "ev")
  | (apply Evl.et_not <;> walk_at "ev")
  | (apply Evl.et_and <;> first | (refine fun (_ : _ = _) => ?_; walk_at "ev") | walk_at "ev")
  | (apply Evl.et_or <;> first | (refine fun (_ : _ = _) => ?_; walk_at "ev") | walk_at "ev")
  | assumption
  | (exact Evl.st_of (by assumption))
  | exact rfl
  | skip))

namespace Hl
open PySem PySem.Spec PyProof.Rows L2 Evl
open GlaPlan (Pt Plan)
/-- a class whose __init__ stores what it is handed under these names -/
def spI (C : Addr) (ns : List Str) : Sp := fun vs H Q _ => ∃ (p dx : Addr) (us : List V), vs = .ref p :: us ∧ us.length = ns.length ∧ H p = some (.ins C dx []) ∧
  ∀ H' fs, H' p = some (.ins C dx fs) → (∀ (i : Nat) (n : Str) (u : V), ns[i]? = some n → us[i]? = some u → fs.lookup n = some u) → (∀ b o, H b = some o → b ≠ p → H' b = some o) → Q .non H'
structure Mak (P : Program) (w : World) (K : PySem.W.Frag) (mg : Str → Option Value) (base : Heap) (k : Nat) (x : Str) (C : Addr) (ns : List Str) : Prop where
  ex : ∃ (f : Addr) (fd : FuncData) (ps : List Str), Mk K C f ∧ FnOk P w K mg base CX0 k f fd ps (spI C ns) ∧ mg x = some (.ref C) ∧ Binds K fd ps []
section
variable {X : Cx} {k j : Nat} {x : Str} {C : Addr} {ns : List Str} {p pos : Pos} {e : Expr} {es : List Expr} {t : TA}
theorem pe_mk (c : Mak X.prog X.w X.K X.mg X.base k x C ns) (hr : Room j X.A) (hk : k + 1 ≤ j) (hg : Gl X x) (ha : PA X (e :: es) t)
    (hdb : (x == ("__debug__" : Str)) = false := by decide) (he : starEach (e :: es) X.env = (false, eval e X.env) :: starEach es X.env := by rfl) (hpl : (backTo pos (starEach es X.env)).any (·.1) = false := by rfl) :
    PE X (.Call (.Name x p) (e :: es) [] pos) (tMake C (spI C ns) [] E0 t) := by
  obtain ⟨f, fd, ps, M, F, hm, b⟩ := c.ex
  exact pe_make M F (hr.mono hk) hg hm b .nil pass0 ha hdb he hpl
end
section
variable {P : Program} {w : World} {K : PySem.W.Frag} {mg : Str → Option Value} {base : Heap} {C : Addr} {σ : L2.St} {H : Hp}
/-- what a new object holds -/
theorem er_make {tr : TA} {ns : List Str} {A : List V → Hp → Prop} (mA : ∀ us H H', Ex H H' → A us H → A us H') (hl : ∀ us H, A us H → us.length = ns.length) (h : ∀ H1, Ex H H1 → ∀ Q : List V → Hp → Prop, (∀ us H2, Ex H1 H2 → A us H2 → Q us H2) → tr σ H1 Q) :
    EvR (tMake C (spI C ns) [] E0 tr) σ H (fun v H' => ∃ a dx fs us, v = .ref a ∧ H' a = some (.ins C dx fs) ∧ (∀ (i : Nat) (n : Str) (u : V), ns[i]? = some n → us[i]? = some u → fs.lookup n = some u) ∧ A us H') := fun H1 e Q q =>
  h H1 e _ fun us H2 e2 a x dx hx hd hne => by
    rw [List.append_nil]
    refine ⟨x, dx, us, rfl, hl _ _ a, upd_same, fun H' fs h1 h2 h3 => ⟨rfl, ?_⟩⟩
    have s : Ex H2 H' := Same.made hx hd h3
    exact q _ H' (e2.trans s) ⟨x, dx, fs, us, rfl, h1, h2, mA _ _ _ s a⟩
/-! ### class Drawing -/
abbrev s_DrI : Stmt := inClass (topS 5) 0
abbrev N_DrI : List Str := ["self", "width", "height", "points", "lines", "marks"]
theorem sc_DrI : FnScope N_DrI N_DrI (defScope s_DrI) := ⟨rfl, rfl, rfl, by decide +kernel, rfl, by decide +kernel, by decide +kernel⟩
abbrev dnames : List Str := ["width", "height", "points", "lines", "marks"]
theorem k_DrI {f : Addr} {fd : FuncData} (D : DrC K C) (F : Fun K "__init__" "Drawing.__init__" s_DrI f fd) : FnOk P w K mg base CX0 1 f fd N_DrI (spI C dnames) := by
  refine F.ok sc_DrI (fun vs H Q E h => ?_) (fun cdv A outer s H vs Q E hr h => ?_)
  · obtain ⟨p, dx, us, rfl, hl, _⟩ := h
    simp [hl]
  · obtain ⟨p, dx, us, rfl, hl, hp, q⟩ := h
    match us, hl with
    | [u1, u2, u3, u4, u5], _ =>
    refine ⟨_, pss_cons (ps_fld (pv 0) (pv 1) rfl) (pss_cons (ps_fld (pv 0) (pv 2) rfl) (pss_cons (ps_fld (pv 0) (pv 3) rfl) (pss_cons (ps_fld (pv 0) (pv 4) rfl) (pss_one (ps_fld (pv 0) (pv 5) rfl))))), ?_⟩
    refine ⟨_, rfl, _, rfl, p, C, dx, _, rfl, hp, D.cl, D.n1, (by show 0 < 1000; decide), ?_⟩
    refine ⟨_, rfl, _, rfl, p, C, dx, _, rfl, upd_same, D.cl, D.n2, (by show 1 < 1000; decide), ?_⟩
    refine ⟨_, rfl, _, rfl, p, C, dx, _, rfl, upd_same, D.cl, D.n3, (by show 2 < 1000; decide), ?_⟩
    refine ⟨_, rfl, _, rfl, p, C, dx, _, rfl, upd_same, D.cl, D.n4, (by show 3 < 1000; decide), ?_⟩
    refine ⟨_, rfl, _, rfl, p, C, dx, _, rfl, upd_same, D.cl, D.n5, (by show 4 < 1000; decide), ?_⟩
    refine q _ _ upd_same (fun i n u hn hu => ?_) (fun b o hb hne => ?_)
    · match i, hn, hu with
      | 0, hn, hu => cases hn; cases hu; rfl
      | 1, hn, hu => cases hn; cases hu; rfl
      | 2, hn, hu => cases hn; cases hu; rfl
      | 3, hn, hu => cases hn; cases hu; rfl
      | 4, hn, hu => cases hn; cases hu; rfl
    · rw [upd_ne hne, upd_ne hne, upd_ne hne, upd_ne hne, upd_ne hne]; exact hb
/-! ### drawing_of -/
theorem rgC_of {lo c n : Nat} (hc : 0 < c ∧ c < 100) (h1 : lo < 1000000) (h2 : n < 1000000) : RgC (lo : Int) ((lo + c * n : Nat) : Int) (c : Int) n := by
  have hm : c * n ≤ 100 * n := Nat.mul_le_mul_right n (by omega)
  have e2 : 0 < n → (c * n - 1) / c = n - 1 := by
    intro z
    have hp : 0 < c * n := Nat.mul_pos hc.1 z
    rw [show c * n - 1 = c * (n - 1) + (c - 1) by
      have : c * n = c * (n - 1) + c := by rw [← Nat.mul_succ]; congr 1; omega
      omega]
    rw [Nat.mul_add_div hc.1, Nat.div_eq_of_lt (by omega)]; omega
  have hp : 0 < n → 0 < c * n := fun z => Nat.mul_pos hc.1 z
  have h0 : n = 0 → c * n = 0 := fun z => by rw [z, Nat.mul_zero]
  generalize c * n = m at *
  have sz : Builtin.Range.rangeSize (lo : Int) ((lo + m : Nat) : Int) (c : Int) = (n : Int) := by
    unfold Builtin.Range.rangeSize
    rw [if_pos (by omega)]
    rcases Nat.eq_zero_or_pos n with z | z
    · have := h0 z
      rw [if_neg (by omega), z]; rfl
    · have hp := hp z
      rw [if_pos (by omega)]
      have e : ((lo + m : Nat) : Int) - (lo : Int) - 1 = ((m - 1 : Nat) : Int) := by omega
      have e3 : (((m - 1 : Nat) : Int) / (c : Int)) = (((m - 1) / c : Nat) : Int) := by simp
      rw [e, e3, e2 z]
      have z1 : ((n - 1 : Nat) : Int) + 1 = (n : Int) := by omega
      exact z1
  refine ⟨by omega, by omega, ?_, sz⟩
  unfold Builtin.Range.small
  rw [sz]
  simp only [Builtin.Range.rangeFitsLong, Bool.and_eq_true, Bool.or_eq_true, decide_eq_true_eq, beq_iff_eq, show ((c : Int) > 0) by omega, if_true]
  omega
/-- a row of pairs of numbers, place by place -/
def pairsFrom (b : List UInt8) (lo c s n : Nat) : List (Nat × Nat) := (List.range n).map fun i => ptAt b (lo + c * i) s
def Adrw (K : PySem.W.Frag) (C : Addr) : List V → Hp → (V → Hp → Prop) → Prop := fun vs H R => ∃ (x : V) (b : List UInt8), vs = [x] ∧ isBy K b x H ∧ b.length = sizeAt b ∧ R = isDr K C (GlaPlan.parts b)
theorem Adrw.mono : Mono (Adrw K C) := fun vs H H' v e ⟨x, b, h, h1, h2⟩ => ⟨x, b, h, h1.mono e, h2⟩
abbrev s_drawing_of : Stmt := topS 11
abbrev N_drawing_of : List Str := ["cartoon", "lines_at", "marks_at", "points", "lines", "marks", "place"]
theorem sc_drawing_of : FnScope N_drawing_of ["cartoon"] (defScope s_drawing_of) := ⟨rfl, rfl, rfl, by decide +kernel, rfl, by decide +kernel, by decide +kernel⟩
theorem ef_pairs {b : List UInt8} {x : V} (ib : isBy K b x H) (lo c s n : Nat) (hs : s ≤ 4) (hc : 0 < c ∧ c < 100) (h1 : lo < 1000000) (h2 : n ≤ 100000) {ta : TA} {σ : L2.St} (hl : 7 ≤ σ.length)
    (hx : ∀ y : V, ((wipe σ [6]).set 6 (some y))[0]? = some (some x)) (ha : EvA ta σ H [.int lo, .int ((lo + c * n : Nat) : Int), .int c]) :
    EvF (tLc (iRng3 ta) (gName 6) tYes (tCall (spR (Apair K)) [] E0 (tCons (tVar 0) (tCons (tVar 6) (tCons (tC (.int s)) tNil)))) [6]) σ H (fun p H' => ∃ us, H' p = some (.lst us) ∧ Its (isPr K) (pairsFrom b lo c s n) us H') := by
  refine ef_lc monoPr stabPr n h2 (YFn fun i => .int ((lo : Int) + (i : Nat) * (c : Int))) (fun i => pairsFrom b lo c s i) rfl (fun i _ => by simp [pairsFrom]) ?_ ?_
  · intro H0 e0 Rr hR
    refine ha H0 e0 _ fun H1 e1 => ⟨lo, _, c, n, rfl, rgC_of hc h1 (by omega), hR _ _ H1 walk_rangeC e1 fun _ _ => trivial⟩
  · rintro i y H1 H2 e1 hi ⟨rfl, rfl⟩ Q hQ
    refine hQ _ H2 (Ex.refl H2) ?_ (.inl ⟨ptAt b (lo + c * i) s, ?_, ?_, ?_⟩)
    · simp only [wipe, List.set_set]
    · exact fun H3 e3 Q q => q H3 (Ex.refl H3)
    · refine er_callR Apair.mono (ea_cons (ev_var (hx _)) (ea_cons (ev_var (by
        rw [List.getElem?_set_self]; rw [wipe_length]; omega)) (ea_cons ev_c ea_nil))) ⟨x, b, lo + c * i, s, ?_, ib.mono e1, hs, rfl⟩
      have : ((lo + c * i : Nat) : Int) = (lo : Int) + (i : Int) * (c : Int) := by rw [Int.mul_comm]; push_cast; rfl
      rw [this]
    · simp [pairsFrom, List.range_succ]
theorem isPt_of {l : Nat × Nat} {v : V} {H : Hp} (h : isPr K l v H) (h1 : l.1 < 4294967296) (h2 : l.2 < 4294967296) : isPt K ⟨l.1, l.2⟩ v H := ⟨⟨h1, h2⟩, h.imp fun a z => ⟨z.1, st_of z.2⟩⟩
theorem k_drawing_of (T : Txt K mg) (D : DrC K C) (F : Dfn K mg "drawing_of" s_drawing_of ["cartoon"]) (c_number_at : Cal P w K mg base 1 "number_at" (spV (Anum K))) (c_pair_at : Cal P w K mg base 2 "pair_at" (spR (Apair K)))
    (c_lines_begin : Cal P w K mg base 2 "lines_begin" (spV (Abyt K linesAt))) (c_marks_begin : Cal P w K mg base 3 "marks_begin" (spV (Abyt K marksAt))) (c_Drawing : Mak P w K mg base 1 "Drawing" C dnames) : Cal P w K mg base 4 "drawing_of" (spR (Adrw K C)) := by
  refine mk_R F sc_drawing_of (fun vs H v h => by obtain ⟨_, _, rfl, _⟩ := h; rfl) (fun f cdv A' outer s H vs E v hr a => ?_)
  obtain ⟨x, b, rfl, ib, hsz, rfl⟩ := a
  have lt2 : ∀ p, GlaBase.num b p 2 < 65536 := by
    intro p
    have h1 := num_bound ((b.drop p).take 2)
    have h2 : ((b.drop p).take 2).length ≤ 2 := by rw [List.length_take]; omega
    have h3 : 256 ^ ((b.drop p).take 2).length ≤ 256 ^ 2 := Nat.pow_le_pow_right (by decide) h2
    have h4 : (256 : Nat) ^ 2 = 65536 := by decide
    rw [GlaBase.num]; omega
  have b12 := lt2 12
  have b14 := lt2 14
  have b16 := lt2 16
  have m1 : Mono (Abyt K linesAt) := Abyt.mono
  have m2 : Mono (Abyt K marksAt) := Abyt.mono
  have m3 : Mono (Anum K) := Anum.mono
  refine ⟨_, (pss_cons (ps_set (i := 1) sc_drawing_of.nd rfl (Or.inl rfl) (pe_c c_lines_begin hr (by decide) (by rfl) (pa_cons (pv 0) pa_nil)))
      (pss_cons (ps_set (i := 2) sc_drawing_of.nd rfl (Or.inl rfl) (pe_c c_marks_begin hr (by decide) (by rfl) (pa_cons (pv 0) pa_nil)))
      (pss_cons (ps_setLc (i := 3) (own := [("place", 6)]) (by rfl) sc_drawing_of.nd rfl rfl (sw_true rfl rfl rfl (by decide +kernel)) (pi_range3 (by rfl) T.range (pa_cons (pe_gc (by rfl) T.g_HEAD_SIZE) (pa_cons (pv 1) (pa_cons (pe_gc (by rfl) T.g_POINT_SIZE) pa_nil)))) (blkOk_by (own := [("place", 6)]) (N := N_drawing_of) (sc := defScope s_drawing_of) (by decide +kernel)) (fun _ _ _ _ _ => (pg_name (i := 6) sc_drawing_of.nd rfl (Or.inl rfl))) (fun _ _ _ _ _ => pts_nil) (fun _ _ _ _ _ => (pe_c c_pair_at hr (by decide) (by rfl) (pa_cons (pv 0) (pa_cons (pv 6) (pa_cons pe_int pa_nil))))))
      (pss_cons (ps_setLc (i := 4) (own := [("place", 6)]) (by rfl) sc_drawing_of.nd rfl rfl (sw_true rfl rfl rfl (by decide +kernel)) (pi_range3 (by rfl) T.range (pa_cons (pv 1) (pa_cons (pv 2) (pa_cons (pe_gc (by rfl) T.g_LINE_SIZE) pa_nil)))) (blkOk_by (own := [("place", 6)]) (N := N_drawing_of) (sc := defScope s_drawing_of) (by decide +kernel)) (fun _ _ _ _ _ => (pg_name (i := 6) sc_drawing_of.nd rfl (Or.inl rfl))) (fun _ _ _ _ _ => pts_nil) (fun _ _ _ _ _ => (pe_c c_pair_at hr (by decide) (by rfl) (pa_cons (pv 0) (pa_cons (pv 6) (pa_cons pe_int pa_nil))))))
      (pss_cons (ps_setLc (i := 5) (own := [("place", 6)]) (by rfl) sc_drawing_of.nd rfl rfl (sw_true rfl rfl rfl (by decide +kernel)) (pi_range3 (by rfl) T.range (pa_cons (pv 2) (pa_cons (pe_callB call_len_seq (by rfl) T.len PySem.boot_len (pa_cons (pv 0) pa_nil)) (pa_cons (pe_gc (by rfl) T.g_MARK_SIZE) pa_nil)))) (blkOk_by (own := [("place", 6)]) (N := N_drawing_of) (sc := defScope s_drawing_of) (by decide +kernel)) (fun _ _ _ _ _ => (pg_name (i := 6) sc_drawing_of.nd rfl (Or.inl rfl))) (fun _ _ _ _ _ => pts_nil) (fun _ _ _ _ _ => (pe_c c_pair_at hr (by decide) (by rfl) (pa_cons (pv 0) (pa_cons (pv 6) (pa_cons pe_int pa_nil))))))
      (pss_one (ps_ret (pe_mk c_Drawing hr (by decide) (by rfl) (pa_cons (pe_c c_number_at hr (by decide) (by rfl) (pa_cons (pv 0) (pa_cons pe_int (pa_cons pe_int pa_nil)))) (pa_cons (pe_c c_number_at hr (by decide) (by rfl) (pa_cons (pv 0) (pa_cons pe_int (pa_cons pe_int pa_nil)))) (pa_cons (pv 3) (pa_cons (pv 4) (pa_cons (pv 5) pa_nil))))))))))))), fun Q kq => ?_⟩
  have a1 : Abyt K linesAt [x] H (.int (linesAt b : Nat)) := ⟨x, b, rfl, ib, rfl⟩
  apply q_asg
  · walk_at "ev"
  · intro H1 e1
    have a2 : Abyt K marksAt [x] H1 (.int (marksAt b : Nat)) := ⟨x, b, rfl, ib.mono e1, rfl⟩
    apply q_asg
    · walk_at "ev"
    · intro H2 e2
      have ib2 := ib.mono (e1.trans e2)
      apply q_asgF
      · refine ef_pairs ib2 20 8 4 (GlaBase.num b 12 2) (by decide) (by decide) (by decide) (by omega) (by show 7 ≤ 7; decide) (fun y => rfl) ?_
        have e : ((20 + 8 * GlaBase.num b 12 2 : Nat) : Int) = (linesAt b : Nat) := rfl
        rw [e]
        walk_at "ev"
      · rintro p3 H3 hp3 e3 ⟨u3, g3, I3⟩
        have ib3 := ib2.mono e3
        apply q_asgF
        · refine ef_pairs ib3 (linesAt b) 4 2 (GlaBase.num b 14 2) (by decide) (by decide) (by rw [linesAt]; omega) (by omega) (by show 7 ≤ 7; decide) (fun y => rfl) ?_
          have e : ((linesAt b + 4 * GlaBase.num b 14 2 : Nat) : Int) = (marksAt b : Nat) := rfl
          rw [e]
          walk_at "ev"
        · rintro p4 H4 hp4 e4 ⟨u4, g4, I4⟩
          have ib4 := ib3.mono e4
          obtain ⟨hb4, l4, hl4, hs4⟩ := ib4
          subst hl4
          have ib4 : isBy K b (.ref l4) H4 := ⟨hb4, l4, rfl, hs4⟩
          apply q_asgF
          · refine ef_pairs ib4 (marksAt b) 12 4 (GlaBase.num b 16 2) (by decide) (by decide) (by rw [marksAt, linesAt]; omega) (by omega) (by show 7 ≤ 7; decide) (fun y => rfl) ?_
            have e : ((marksAt b + 12 * GlaBase.num b 16 2 : Nat) : Int) = ((byV b).length : Int) := by
              rw [byV, List.length_map, hsz]; rfl
            rw [e]
            walk_at "ev"
          · rintro p5 H5 hp5 e5 ⟨u5, g5, I5⟩
            have a3 : Anum K [.ref l4, .int 4, .int 4] H5 (.int (GlaBase.num b 4 4 : Nat)) := ⟨_, b, 4, 4, rfl, ib4.mono e5, by decide, rfl⟩
            have a4 : Anum K [.ref l4, .int 8, .int 4] H5 (.int (GlaBase.num b 8 4 : Nat)) := ⟨_, b, 8, 4, rfl, ib4.mono e5, by decide, rfl⟩
            have I3' := I3.mono monoPr (e4.trans e5)
            have I4' := I4.mono monoPr e5
            apply s_retR
            · refine er_make (ns := dnames) (A := fun us H' => us = [.int (GlaBase.num b 4 4 : Nat), .int (GlaBase.num b 8 4 : Nat), .ref p3, .ref p4, .ref p5] ∧ Ex H5 H') (fun us H H' e h => ⟨h.1, h.2.trans e⟩) (fun us H h => by rw [h.1]; rfl) ?_
              intro H6 e6 Q' q'
              have q2 : ∀ H2, Ex H6 H2 → Q' [.int (GlaBase.num b 4 4 : Nat), .int (GlaBase.num b 8 4 : Nat), .ref p3, .ref p4, .ref p5] H2 := fun H2 e => q' _ H2 e ⟨rfl, e6.trans e⟩
              refine (?_ : EvA _ _ H5 [.int (GlaBase.num b 4 4 : Nat), .int (GlaBase.num b 8 4 : Nat), .ref p3, .ref p4, .ref p5]) H6 e6 Q' q2
              walk_at "ev"
            · rintro v H7 e7 ⟨a, dx, fs, us, rfl, hv, hf, rfl, e8⟩
              have e07 : Ex H H7 := (e1.trans (e2.trans (e3.trans (e4.trans (e5.trans e7)))))
              refine kq _ H7 e07 ⟨a, dx, fs, .ref p3, .ref p4, .ref p5, rfl, hv, hf 0 _ _ rfl rfl, hf 1 _ _ rfl rfl, hf 2 _ _ rfl rfl, hf 3 _ _ rfl rfl, hf 4 _ _ rfl rfl, ?_, ?_, ?_⟩
              · refine ⟨p3, u3, rfl, sq_of ((e4.trans (e5.trans e7)) _ _ g3), ?_⟩
                have I := I3.mono monoPr (e4.trans (e5.trans e7))
                refine ⟨by rw [I.1]; simp [pairsFrom, GlaPlan.parts], fun i p hp => ?_⟩
                have hi : i < GlaBase.num b 12 2 := by
                  have := (List.getElem?_eq_some_iff.1 hp).1
                  simpa [GlaPlan.parts] using this
                have hq : (pairsFrom b 20 8 4 (GlaBase.num b 12 2))[i]? = some (ptAt b (20 + 8 * i) 4) := by
                  rw [pairsFrom, List.getElem?_map, List.getElem?_range hi]; rfl
                obtain ⟨v, h1, h2⟩ := I.2 i _ hq
                refine ⟨v, h1, ?_⟩
                have ep : p = ⟨(ptAt b (20 + 8 * i) 4).1, (ptAt b (20 + 8 * i) 4).2⟩ := by
                  simp only [GlaPlan.parts, List.getElem?_map, List.getElem?_range hi, Option.map_some, Option.some.injEq] at hp
                  rw [← hp]; rfl
                rw [ep]
                exact isPt_of h2 (num_lt4 _ _ _ (by decide)) (num_lt4 _ _ _ (by decide))
              · refine ⟨p4, u4, rfl, sq_of ((e5.trans e7) _ _ g4), ?_⟩
                have I := I4.mono monoPr (e5.trans e7)
                refine ⟨by rw [I.1]; simp [pairsFrom, GlaPlan.parts], fun i p hp => ?_⟩
                have hi : i < GlaBase.num b 14 2 := by
                  have := (List.getElem?_eq_some_iff.1 hp).1
                  simpa [GlaPlan.parts] using this
                have hq : (pairsFrom b (linesAt b) 4 2 (GlaBase.num b 14 2))[i]? = some (ptAt b (linesAt b + 4 * i) 2) := by
                  rw [pairsFrom, List.getElem?_map, List.getElem?_range hi]; rfl
                obtain ⟨v, h1, h2⟩ := I.2 i _ hq
                refine ⟨v, h1, ?_⟩
                have ep : p = ptAt b (linesAt b + 4 * i) 2 := by
                  simp only [GlaPlan.parts, List.getElem?_map, List.getElem?_range hi, Option.map_some, Option.some.injEq] at hp
                  rw [← hp]; rfl
                rw [ep]
                exact h2
              · refine ⟨p5, u5, rfl, sq_of (e7 _ _ g5), ?_⟩
                have I := I5.mono monoPr e7
                refine ⟨by rw [I.1]; simp [pairsFrom, GlaPlan.parts], fun i p hp => ?_⟩
                have hi : i < GlaBase.num b 16 2 := by
                  have := (List.getElem?_eq_some_iff.1 hp).1
                  simpa [GlaPlan.parts] using this
                have hq : (pairsFrom b (marksAt b) 12 4 (GlaBase.num b 16 2))[i]? = some (ptAt b (marksAt b + 12 * i) 4) := by
                  rw [pairsFrom, List.getElem?_map, List.getElem?_range hi]; rfl
                obtain ⟨v, h1, h2⟩ := I.2 i _ hq
                refine ⟨v, h1, ?_⟩
                have ep : p = ⟨(ptAt b (marksAt b + 12 * i) 4).1, (ptAt b (marksAt b + 12 * i) 4).2⟩ := by
                  simp only [GlaPlan.parts, List.getElem?_map, List.getElem?_range hi, Option.map_some, Option.some.injEq] at hp
                  rw [← hp]; rfl
                rw [ep]
                exact isPt_of h2 (num_lt4 _ _ _ (by decide)) (num_lt4 _ _ _ (by decide))
end
end Hl
end PHl4

section PRl3
set_option Elab.async false
set_option linter.all false
set_option maxRecDepth 100000
set_option maxHeartbeats 2000000
namespace Hl
open PySem PySem.Spec PyProof.Rows L2 Evl
section
variable {K : PySem.W.Frag} {σ : L2.St} {H H' : Hp} {ta tb te : TE} {tt : TT} {tr : TA} {v : V} {vs : List Nat} {D : Ends} {tu tz : TS} {g : TG}
/-! ### searches -/
theorem s_listS {α : Type} {R : α → V → Hp → Prop} (mR : MonoR R) {a : Addr} {us : List V} {xs : List α} (h : Ev te σ H (.ref a)) (hq : SqL K H a us) (hI : Its R xs us H) {j : Nat} (I : Nat → L2.St → Prop) (h0 : I 0 σ)
    (hs : ∀ i x v σ' H', xs[i]? = some x → Ex H H' → R x v H' → I i σ' → tu { D with nx := fun σ2 H2 => I (i + 1) σ2 ∧ Ex H H2, ct := fun σ2 H2 => I (i + 1) σ2 ∧ Ex H H2, bk := D.nx } (σ'.set j (some v)) H')
    (hd : ∀ σ' H', I xs.length σ' → Ex H H' → D.nx σ' H') : tFor (iList K te) (gName j) tu D σ H :=
  s_forL h hq (fun i σ' H' => I i σ' ∧ Ex H H') (fun H1 e => ⟨h0, e⟩) (fun i σ' H' _ p => ex_l p.2 hq) (fun i v σ' H' hv p => by
    obtain ⟨x, hx, r⟩ := hI.get hv
    exact hs i x v σ' H' hx p.2 (mR _ _ _ _ p.2 r) p.1) (fun σ' H' p => hd σ' H' (by rw [← hI.1]; exact p.1) p.2)
theorem q_listS {α : Type} {R : α → V → Hp → Prop} (mR : MonoR R) {a : Addr} {us : List V} {xs : List α} (h : Ev te σ H (.ref a)) (hq : SqL K H a us) (hI : Its R xs us H) {j : Nat} (I : Nat → L2.St → Prop) (h0 : I 0 σ)
    (hs : ∀ i x v σ' H', xs[i]? = some x → Ex H H' → R x v H' → I i σ' → tu { D with nx := fun σ2 H2 => I (i + 1) σ2 ∧ Ex H H2, ct := fun σ2 H2 => I (i + 1) σ2 ∧ Ex H H2, bk := tz D } (σ'.set j (some v)) H')
    (hd : ∀ σ' H', I xs.length σ' → Ex H H' → tz D σ' H') : tSeq (tFor (iList K te) (gName j) tu) tz D σ H := s_listS (D := { D with nx := tz D }) mR h hq hI I h0 hs hd
theorem g_pair {j1 j2 : Nat} {T : Addr} {x y : V} {Q : L2.St → Hp → Prop} (hT : H T = some (.tup [x, y])) (q : Q ((σ.set j1 (some x)).set j2 (some y)) H) : gTup K 2 (gCons (gName j1) (gCons (gName j2) gNil)) (.ref T) σ H Q :=
  ⟨T, [x, y], rfl, st_of hT, rfl, x, [y], rfl, y, [], rfl, rfl, q⟩
theorem q_enumS {α : Type} {R : α → V → Hp → Prop} (mR : MonoR R) {a : Addr} {us : List V} {xs : List α} (h : Ev te σ H (.ref a)) (hq : SqL K H a us) (hI : Its R xs us H) {j1 j2 : Nat} (I : Nat → L2.St → Prop) (h0 : I 0 σ)
    (hs : ∀ i x v σ' H', xs[i]? = some x → Ex H H' → R x v H' → I i σ' → tu { D with nx := fun σ2 H2 => I (i + 1) σ2 ∧ Ex H H2, ct := fun σ2 H2 => I (i + 1) σ2 ∧ Ex H H2, bk := tz D } ((σ'.set j1 (some (.int (i : Nat)))).set j2 (some v)) H')
    (hd : ∀ σ' H', I xs.length σ' → Ex H H' → tz D σ' H') : tSeq (tFor (iEnum K (tCons te tNil)) (gTup K 2 (gCons (gName j1) (gCons (gName j2) gNil))) tu) tz D σ H :=
  h H (Ex.refl H) _ fun H1 e1 => ⟨a, us, rfl, ex_l e1 hq, for_it walk_enum (fun i σ' H' => I i σ' ∧ Ex H H') ⟨h0, e1⟩ (fun i σ' H' _ p => ex_l p.2 hq) (fun i y σ' H2 H3 hi p hy => by
    obtain ⟨T, x, z, rfl, hT, rfl, hx, hz⟩ := hy
    obtain rfl := Option.some.inj hx
    obtain ⟨m, hm, r⟩ := hI.get hz
    have e3 : Ex H2 (upd H2 T (.tup [.int (i : Nat), z])) := Ex.new hT
    exact g_pair upd_same (hs i m z σ' _ hm (p.2.trans e3) (mR _ _ _ _ (p.2.trans e3) r) p.1)) (fun σ' H' p => hd σ' H' (by rw [← hI.1]; exact p.1) p.2)⟩
/-! a call's value as None or a number -/
def opV : Option Nat → V
  | none => .non
  | some n => .int (n : Int)
theorem fa0_drop {α : Type} {p : Nat → α → Bool} {l : List α} {i : Nat} {x : α} (h : l[i]? = some x) : Geo.fa0 p i (l.drop i) = if p i x = true then some i else Geo.fa0 p (i + 1) (l.drop (i + 1)) := by
  obtain ⟨h1, h2⟩ := List.getElem?_eq_some_iff.1 h
  rw [List.drop_eq_getElem_cons h1, h2, Geo.fa0]
theorem fa0_end {α : Type} {p : Nat → α → Bool} {l : List α} : Geo.fa0 p l.length (l.drop l.length) = none := by
  rw [List.drop_length]; rfl
end
end Hl
end PRl3

section PHl5
set_option Elab.async false
set_option linter.all false
set_option maxRecDepth 100000
set_option maxHeartbeats 2000000
local macro_rules | `(tactic| walk_at "ev") => `(tactic| (first
  | exact Evl.ev_c
  | exact Evl.ev_var rfl
  | (apply Hl.ev_I0 <;> walk_at "ev")
  | (apply Hl.ev_I <;> walk_at "ev")
  | (apply Hl.ev_ixT <;> walk_at "ev")
  | (apply Hl.ev_ixL <;> walk_at "ev")
  | exact Evl.ea_nil
  | (apply Evl.ea_cons <;> walk_at "ev")
  | (apply Hl.ev_callV <;> first | assumption | walk_at "ev")
  | (apply Hl.ev_eq <;> walk_at "ev")
  | (apply Hl.ev_ne <;> walk_at "ev")
  | (apply Hl.ev_fld <;> first | assumption | walk_at "ev")
  | (apply Hl.ev_lenL <;> first | assumption | walk_at "ev")
  | (apply Hl.ev_chain <;> first | (refine fun (_ : _ = _) => ?_; walk_at "ev") | walk_at "ev")
  | (apply Evl.ev_orV <;> first | (refine fun (_ : _ = _) => ?_; walk_at "ev") | walk_at "ev")
  | (apply Evl.ev_andV <;> first | (refine fun (_ : _ = _) => ?_; walk_at "ev") | walk_at "ev")
  | (apply Evl.ev_notV <;> walk_at "ev")
  | (apply Evl.et_test <;> walk_at "ev")
  | (apply Evl.et_B <;> walk_at "ev")
  | (apply Evl.et_not <;> walk_at "ev")
  | (apply Evl.et_and <;> first | (refine fun (_ : _ = _) => ?_; walk_at "ev") | walk_at "ev")
  | (apply Evl.et_or <;> first | (refine fun (_ : _ = _) => ?_; walk_at "ev") | walk_at "ev")
  | assumption
  | (exact Evl.st_of (by assumption))
  | exact rfl
  | skip))

namespace Hl
open PySem PySem.Spec PyProof.Rows L2 Evl
open GlaPlan (Pt Plan)
section
variable {P : Program} {w : World} {K : PySem.W.Frag} {mg : Str → Option Value} {base : Heap} {C : Addr}
/-- of a drawing: None or a number -/
def Ado (K : PySem.W.Frag) (C : Addr) (G : Plan → Prop) (f : Plan → V) : List V → Hp → V → Prop := fun vs H v => ∃ (x : V) (S : Plan), vs = [x] ∧ isDr K C S x H ∧ G S ∧ v = f S
theorem Ado.mono {G : Plan → Prop} {f : Plan → V} : Mono (Ado K C G f) := fun vs H H' v e ⟨x, S, h, h1, h2⟩ => ⟨x, S, h, h1.mono e, h2⟩
theorem Ado.len {G : Plan → Prop} {f : Plan → V} {vs : List V} {H : Hp} {v : V} (h : Ado K C G f vs H v) : vs.length = 1 := by obtain ⟨_, _, rfl, _⟩ := h; rfl
def okPt (S : Plan) (p : Pt) : Bool := decide (p.x ≤ S.w) && decide (p.y ≤ S.h)
def badPt (S : Plan) (i : Nat) (x : Pt) : Bool := !okPt S x || (decide (0 < i) && (match S.pts[i - 1]? with | some y => !y.below x | none => false))
def fPoint (S : Plan) : Option Nat := (Geo.fa0 (badPt S) 0 S.pts).map GlaPlan.ptPlace
abbrev s_point_fault : Stmt := topS 64
abbrev N_point_fault : List Str := ["drawing", "points", "i", "point"]
theorem sc_point_fault : FnScope N_point_fault ["drawing"] (defScope s_point_fault) := ⟨rfl, rfl, rfl, by decide +kernel, rfl, by decide +kernel, by decide +kernel⟩
theorem k_point_fault (T : Txt K mg) (D : DrC K C) (F : Dfn K mg "point_fault" s_point_fault ["drawing"]) (c_point_place : Cal P w K mg base 1 "point_place" (spV (Anat GlaPlan.ptPlace))) (c_comes_behind : Cal P w K mg base 1 "comes_behind" (spV (A2 K fun p q => .bl (q.below p)))) :
    Cal P w K mg base 2 "point_fault" (spV (Ado K C (fun _ => True) fun S => opV (fPoint S))) := by
  refine mk_V F sc_point_fault (fun vs H v h => h.len) (fun f cdv A' outer s H vs E v hr a => ?_)
  obtain ⟨x, S, rfl, id, _, rfl⟩ := a
  obtain ⟨a, dx, fs, vp, vl, vm, rfl, h2, f1, f2, f3, f4, f5, ⟨lp, us, rfl, hp, ip⟩, il, im⟩ := id
  have cl := D.cl
  have n1 := D.n1
  have n2 := D.n2
  have n3 := D.n3
  refine ⟨_, (pss_cons (ps_set (i := 1) sc_point_fault.nd rfl (Or.inl rfl) (pe_fld (pv 0) rfl))
      (pss_cons (ps_for PassesOwn.never rfl (pi_enum (by rfl) T.enumerate (pa_cons (pv 1) pa_nil)) (pg_tup (by rfl) (pgs_cons (pg_name (i := 2) sc_point_fault.nd rfl (Or.inl rfl)) (pgs_cons (pg_name (i := 3) sc_point_fault.nd rfl (Or.inl rfl)) pgs_nil)))
        (pss_cons (ps_if (PW.pt (pw_or (pt_cmpR op_gt (pe_ix ix_tup (pv 3) pe_int (fun _ _ => rfl)) (pe_fld (pv 0) rfl) (nomark _)) (pw_or1 (pt_cmpR op_gt (pe_ix ix_tup (pv 3) pe_int (fun _ _ => rfl)) (pe_fld (pv 0) rfl) (nomark _))))) (pss_one (ps_ret (pe_c c_point_place hr (by decide) (by rfl) (pa_cons (pv 2) pa_nil)))) pss_nil)
      (pss_one (ps_if (PW.pt (pw_and (pt_cmpR op_gt (pv 2) pe_int (nomark _)) (pw_and1 (pt_not (pt_val (pe_c c_comes_behind hr (by decide) (by rfl) (pa_cons (pv 3) (pa_cons (pe_ix ix_list (pv 1) (pe_op op_sub (pv 2) pe_int) (fun _ _ => rfl)) pa_nil)))))))) (pss_one (ps_ret (pe_c c_point_place hr (by decide) (by rfl) (pa_cons (pv 2) pa_nil)))) pss_nil))))
      (pss_one (ps_ret pe_non)))), fun Q kq => ?_⟩
  replace kq : ∀ H', Ex H H' → Q (opV (fPoint S)) H' := kq
  rw [fPoint] at kq
  have m1 : Mono (Anat GlaPlan.ptPlace) := Anat.mono
  have m2 : Mono (A2 K fun p q => .bl (q.below p)) := A2.mono
  apply q_asg
  · walk_at "ev"
  · intro H1 e1
    apply q_enumS monoPt (ev_var rfl) (ex_l e1 hp) (ip.mono monoPt e1) (fun i σ' => ∃ y z, σ' = [some (.ref a), some (.ref lp), y, z] ∧ Geo.fa0 (badPt S) 0 S.pts = Geo.fa0 (badPt S) i (S.pts.drop i))
    · exact ⟨none, none, rfl, rfl⟩
    · rintro i p v σ' H2 hx e2 iv ⟨y, z, rfl, hF⟩
      rw [fa0_drop hx] at hF
      have ivp := iv
      obtain ⟨hpb, av, rfl, hv⟩ := iv
      have h2' := (e1.trans e2) _ _ h2
      have a1 : Anat GlaPlan.ptPlace [.int i] H2 (.int (GlaPlan.ptPlace i : Nat)) := ⟨i, rfl, rfl⟩
      apply q_when (b := !okPt S p)
      · refine et_is (a := decide ((S.w : Int) < p.x) || decide ((S.h : Int) < p.y)) ?_ ?_
        · walk_at "ev"
        · rw [Bool.eq_iff_iff]; simp only [okPt, Bool.or_eq_true, Bool.not_eq_true', decide_eq_true_eq, Bool.and_eq_false_iff, decide_eq_false_iff_not]; omega
      · intro hb H3 e3
        have hbad : badPt S i p = true := by rw [badPt, hb]; rfl
        rw [if_pos hbad] at hF
        have a1 : Anat GlaPlan.ptPlace [.int i] H3 (.int (GlaPlan.ptPlace i : Nat)) := ⟨i, rfl, rfl⟩
        apply s_ret
        · walk_at "ev"
        · intro H4 e4
          have := kq H4 (((e1.trans e2).trans e3).trans e4)
          rw [hF] at this; exact this
      · intro hb H3 e3
        have prev : 0 < i → ∃ p' u', S.pts[i - 1]? = some p' ∧ us[i - 1]? = some u' ∧ isPt K p' u' H3 := by
          intro hi
          have : i - 1 < S.pts.length := by have := (List.getElem?_eq_some_iff.1 hx).1; omega
          obtain ⟨u', q1, q2⟩ := ip.2 (i - 1) _ (List.getElem?_eq_getElem this)
          exact ⟨_, u', List.getElem?_eq_getElem this, q1, q2.mono ((e1.trans e2).trans e3)⟩
        apply s_when (b := badPt S i p)
        · rw [badPt, hb, Bool.false_or]
          refine et_is (a := decide ((0 : Int) < i) && (match S.pts[i - 1]? with | some y => !y.below p | none => false)) (et_and ?_ ?_) ?_
          · walk_at "ev"
          · intro hi
            have hi : 0 < i := by simpa using hi
            obtain ⟨p', u', q1, q2, q3⟩ := prev hi
            rw [q1]
            have a2 : A2 K (fun p q => .bl (q.below p)) [.ref av, u'] H3 (.bl (p'.below p)) := ⟨_, _, p, p', rfl, ivp.mono e3, q3, rfl⟩
            have hat : atI us ((i : Int) - 1) = some u' := by
              rw [show (i : Int) - 1 = ((i - 1 : Nat) : Int) by omega]
              exact atI_nat q2
            have hp3 := ex_l ((e1.trans e2).trans e3) hp
            walk_at "ev"
          · congr 1
            simp
        · intro hb2 H4 e4
          rw [if_pos hb2] at hF
          have a1 : Anat GlaPlan.ptPlace [.int i] H4 (.int (GlaPlan.ptPlace i : Nat)) := ⟨i, rfl, rfl⟩
          apply s_ret
          · walk_at "ev"
          · intro H5 e5
            have := kq H5 ((((e1.trans e2).trans e3).trans e4).trans e5)
            rw [hF] at this; exact this
        · intro hb2 H4 e4
          rw [hb2, if_neg Bool.false_ne_true] at hF
          exact ⟨⟨_, _, rfl, hF⟩, (e2.trans e3).trans e4⟩
    · rintro σ' H2 ⟨y, z, rfl, hF⟩ e2
      rw [fa0_end] at hF
      rw [hF] at kq
      apply s_ret
      · exact ev_c
      · exact fun H3 e3 => kq H3 ((e1.trans e2).trans e3)
def okLn (S : Plan) (l : Nat × Nat) : Bool := decide (l.1 < l.2) && decide (l.2 < S.pts.length)
def badLn (S : Plan) (i : Nat) (x : Nat × Nat) : Bool := !okLn S x || (decide (0 < i) && (match S.lines[i - 1]? with | some y => !GlaPlan.lineBelow y x | none => false))
def fLine (S : Plan) : Option Nat := (Geo.fa0 (badLn S) 0 S.lines).map (GlaPlan.linePlace S)
theorem le_eq (l m : Nat × Nat) : (decide ((l.1 : Int) < m.1) || (decide ((l.1 : Int) = m.1) && decide ((l.2 : Int) ≤ m.2))) = !GlaPlan.lineBelow m l := by
  rw [Bool.eq_iff_iff]
  simp only [GlaPlan.lineBelow, Bool.or_eq_true, Bool.and_eq_true, decide_eq_true_eq, Bool.not_eq_true', Bool.or_eq_false_iff, Bool.and_eq_false_iff, decide_eq_false_iff_not, beq_eq_false_iff_ne]
  omega
abbrev s_line_fault : Stmt := topS 65
abbrev N_line_fault : List Str := ["drawing", "lines", "i", "line"]
theorem sc_line_fault : FnScope N_line_fault ["drawing"] (defScope s_line_fault) := ⟨rfl, rfl, rfl, by decide +kernel, rfl, by decide +kernel, by decide +kernel⟩
theorem k_line_fault (T : Txt K mg) (D : DrC K C) (F : Dfn K mg "line_fault" s_line_fault ["drawing"]) (c_line_place : Cal P w K mg base 2 "line_place" (spV (Adn K C GlaPlan.linePlace))) :
    Cal P w K mg base 3 "line_fault" (spV (Ado K C (fun _ => True) fun S => opV (fLine S))) := by
  refine mk_V F sc_line_fault (fun vs H v h => h.len) (fun f cdv A' outer s H vs E v hr a => ?_)
  obtain ⟨x, S, rfl, id, _, rfl⟩ := a
  have id0 := id
  obtain ⟨a, dx, fs, vp, vl, vm, rfl, h2, f1, f2, f3, f4, f5, ⟨lp, us, rfl, hp, ip⟩, ⟨ll, ul, rfl, hl, il⟩, im⟩ := id
  have cl := D.cl
  have n3 := D.n3
  have n4 := D.n4
  refine ⟨_, (pss_cons (ps_set (i := 1) sc_line_fault.nd rfl (Or.inl rfl) (pe_fld (pv 0) rfl))
      (pss_cons (ps_for PassesOwn.never rfl (pi_enum (by rfl) T.enumerate (pa_cons (pv 1) pa_nil)) (pg_tup (by rfl) (pgs_cons (pg_name (i := 2) sc_line_fault.nd rfl (Or.inl rfl)) (pgs_cons (pg_name (i := 3) sc_line_fault.nd rfl (Or.inl rfl)) pgs_nil)))
        (pss_cons (ps_if (PW.pt (pw_or (pt_cmpR op_ge (pe_ix ix_tup (pv 3) pe_int (fun _ _ => rfl)) (pe_ix ix_tup (pv 3) pe_int (fun _ _ => rfl)) (nomark _)) (pw_or1 (pt_cmpR op_ge (pe_ix ix_tup (pv 3) pe_int (fun _ _ => rfl)) (pe_callB call_len_seq (by rfl) T.len PySem.boot_len (pa_cons (pe_fld (pv 0) rfl) pa_nil)) (nomark _))))) (pss_one (ps_ret (pe_c c_line_place hr (by decide) (by rfl) (pa_cons (pv 0) (pa_cons (pv 2) pa_nil))))) pss_nil)
      (pss_one (ps_if (PW.pt (pw_and (pt_cmpR op_gt (pv 2) pe_int (nomark _)) (pw_and1 (pt_cmpR (op_le2 hr.units0) (pv 3) (pe_ix ix_list (pv 1) (pe_op op_sub (pv 2) pe_int) (fun _ _ => rfl)) (nomark _))))) (pss_one (ps_ret (pe_c c_line_place hr (by decide) (by rfl) (pa_cons (pv 0) (pa_cons (pv 2) pa_nil))))) pss_nil))))
      (pss_one (ps_ret pe_non)))), fun Q kq => ?_⟩
  replace kq : ∀ H', Ex H H' → Q (opV (fLine S)) H' := kq
  rw [fLine] at kq
  have m1 : Mono (Adn K C GlaPlan.linePlace) := Adn.mono
  apply q_asg
  · walk_at "ev"
  · intro H1 e1
    apply q_enumS monoPr (ev_var rfl) (ex_l e1 hl) (il.mono monoPr e1) (fun i σ' => ∃ y z, σ' = [some (.ref a), some (.ref ll), y, z] ∧ Geo.fa0 (badLn S) 0 S.lines = Geo.fa0 (badLn S) i (S.lines.drop i))
    · exact ⟨none, none, rfl, rfl⟩
    · rintro i p v σ' H2 hx e2 iv ⟨y, z, rfl, hF⟩
      rw [fa0_drop hx] at hF
      obtain ⟨av, rfl, hv⟩ := iv
      have h2' := (e1.trans e2) _ _ h2
      have hp2 := ex_l (e1.trans e2) hp
      apply q_when (b := !okLn S p)
      · refine et_is (a := decide ((p.2 : Int) ≤ p.1) || decide ((us.length : Int) ≤ p.2)) ?_ ?_
        · walk_at "ev"
        · rw [Bool.eq_iff_iff, ip.1]; simp only [okLn, Bool.or_eq_true, Bool.not_eq_true', decide_eq_true_eq, Bool.and_eq_false_iff, decide_eq_false_iff_not]; omega
      · intro hb H3 e3
        have hbad : badLn S i p = true := by rw [badLn, hb]; rfl
        rw [if_pos hbad] at hF
        have a1 : Adn K C GlaPlan.linePlace [.ref a, .int i] H3 (.int (GlaPlan.linePlace S i : Nat)) := ⟨_, S, i, rfl, id0.mono ((e1.trans e2).trans e3), rfl⟩
        apply s_ret
        · walk_at "ev"
        · intro H4 e4
          have := kq H4 (((e1.trans e2).trans e3).trans e4)
          rw [hF] at this; exact this
      · intro hb H3 e3
        apply s_when (b := badLn S i p)
        · rw [badLn, hb, Bool.false_or]
          refine et_is (a := decide ((0 : Int) < i) && (match S.lines[i - 1]? with | some y => !GlaPlan.lineBelow y p | none => false)) (et_and ?_ ?_) ?_
          · walk_at "ev"
          · intro hi
            have hi : 0 < i := by simpa using hi
            have hlt : i - 1 < S.lines.length := by have := (List.getElem?_eq_some_iff.1 hx).1; omega
            obtain ⟨u', q2, q3⟩ := il.2 (i - 1) _ (List.getElem?_eq_getElem hlt)
            rw [List.getElem?_eq_getElem hlt]
            obtain ⟨aw, rfl, hw⟩ := q3
            have hat : atI ul ((i : Int) - 1) = some (.ref aw) := by
              rw [show (i : Int) - 1 = ((i - 1 : Nat) : Int) by omega]
              exact atI_nat q2
            have hl3 := ex_l ((e1.trans e2).trans e3) hl
            simp only
            rw [← le_eq]
            apply et_test
            refine ev_cmp2 (ev_var rfl) ?_ (ex_t e3 (st_of hv)) (ex_t ((e1.trans e2).trans e3) (st_of hw))
            walk_at "ev"
          · congr 1
            simp
        · intro hb2 H4 e4
          rw [if_pos hb2] at hF
          have a1 : Adn K C GlaPlan.linePlace [.ref a, .int i] H4 (.int (GlaPlan.linePlace S i : Nat)) := ⟨_, S, i, rfl, id0.mono (((e1.trans e2).trans e3).trans e4), rfl⟩
          apply s_ret
          · walk_at "ev"
          · intro H5 e5
            have := kq H5 ((((e1.trans e2).trans e3).trans e4).trans e5)
            rw [hF] at this; exact this
        · intro hb2 H4 e4
          rw [hb2, if_neg Bool.false_ne_true] at hF
          exact ⟨⟨_, _, rfl, hF⟩, (e2.trans e3).trans e4⟩
    · rintro σ' H2 ⟨y, z, rfl, hF⟩ e2
      rw [fa0_end] at hF
      rw [hF] at kq
      apply s_ret
      · exact ev_c
      · exact fun H3 e3 => kq H3 ((e1.trans e2).trans e3)
/-! ### points on a line, lines that cross -/
def Adl (K : PySem.W.Frag) (C : Addr) (f : Plan → Nat × Nat → V) : List V → Hp → V → Prop := fun vs H v => ∃ (x y : V) (S : Plan) (l : Nat × Nat), vs = [x, y] ∧ isDr K C S x H ∧ isPr K l y H ∧ l.1 < S.pts.length ∧ l.2 < S.pts.length ∧ v = f S l
theorem Adl.mono {f : Plan → Nat × Nat → V} : Mono (Adl K C f) := fun vs H H' v e ⟨x, y, S, p, h, h1, h2, h3⟩ => ⟨x, y, S, p, h, h1.mono e, h2.mono e, h3⟩
theorem Adl.len {f : Plan → Nat × Nat → V} {vs : List V} {H : Hp} {v : V} (h : Adl K C f vs H v) : vs.length = 2 := by obtain ⟨_, _, _, _, rfl, _⟩ := h; rfl
/-- an item by its number -/
theorem Its.at {α : Type} {R : α → V → Hp → Prop} {xs : List α} {us : List V} {H : Hp} (h : Its R xs us H) {i : Nat} (hi : i < xs.length) : ∃ u, atI us (i : Int) = some u ∧ R xs[i] u H := by
  obtain ⟨u, h1, h2⟩ := h.2 i _ (List.getElem?_eq_getElem hi)
  exact ⟨u, atI_nat h1, h2⟩
theorem pt_at {S : Plan} {i : Nat} (hi : i < S.pts.length) : S.pts[i] = S.pt i := by
  have := Geo.pt_get hi
  rw [List.getElem?_eq_getElem hi] at this
  exact Option.some.inj this
theorem Its.pt {S : Plan} {us : List V} {H : Hp} (h : Its (isPt K) S.pts us H) {i : Nat} (hi : i < S.pts.length) : ∃ u, atI us (i : Int) = some u ∧ isPt K (S.pt i) u H := by
  obtain ⟨u, h1, h2⟩ := h.at hi
  rw [pt_at hi] at h2
  exact ⟨u, h1, h2⟩
def onIt (S : Plan) (l : Nat × Nat) : Bool := (List.range S.pts.length).any fun (k : Nat) => k != l.1 && (k != l.2 && GlaPlan.isOn (S.pt l.1) (S.pt l.2) (S.pt k))
theorem any_drop {p : Nat → Bool} {n i : Nat} (hi : i < n) : ((List.range n).drop i).any p = (p i || ((List.range n).drop (i + 1)).any p) := by
  rw [List.drop_eq_getElem_cons (by simpa using hi), List.any_cons]; simp
abbrev s_has_point_on_it : Stmt := topS 68
abbrev N_has_point_on_it : List Str := ["drawing", "line", "points", "p", "q", "i", "point"]
theorem sc_has_point_on_it : FnScope N_has_point_on_it ["drawing", "line"] (defScope s_has_point_on_it) := ⟨rfl, rfl, rfl, by decide +kernel, rfl, by decide +kernel, by decide +kernel⟩
theorem k_has_point_on_it (T : Txt K mg) (D : DrC K C) (F : Dfn K mg "has_point_on_it" s_has_point_on_it ["drawing", "line"]) (c_lies_on : Cal P w K mg base 2 "lies_on" (spV (A3 K fun r p q => .bl (GlaPlan.isOn p q r)))) :
    Cal P w K mg base 3 "has_point_on_it" (spV (Adl K C fun S l => .bl (onIt S l))) := by
  refine mk_V F sc_has_point_on_it (fun vs H v h => h.len) (fun f cdv A' outer s H vs E v hr a => ?_)
  obtain ⟨x, y, S, l, rfl, id, ⟨al, rfl, hl⟩, hl1, hl2, rfl⟩ := a
  obtain ⟨a, dx, fs, vp, vl, vm, rfl, h2, f1, f2, f3, f4, f5, ⟨lp, us, rfl, hp, ip⟩, il, im⟩ := id
  have cl := D.cl
  have n3 := D.n3
  refine ⟨_, (pss_cons (ps_set (i := 2) sc_has_point_on_it.nd rfl (Or.inl rfl) (pe_fld (pv 0) rfl))
      (pss_cons (ps_set (i := 3) sc_has_point_on_it.nd rfl (Or.inl rfl) (pe_ix ix_list (pv 2) (pe_ix ix_tup (pv 1) pe_int (fun _ _ => rfl)) (fun _ _ => rfl)))
      (pss_cons (ps_set (i := 4) sc_has_point_on_it.nd rfl (Or.inl rfl) (pe_ix ix_list (pv 2) (pe_ix ix_tup (pv 1) pe_int (fun _ _ => rfl)) (fun _ _ => rfl)))
      (pss_cons (ps_for PassesOwn.never rfl (pi_enum (by rfl) T.enumerate (pa_cons (pv 2) pa_nil)) (pg_tup (by rfl) (pgs_cons (pg_name (i := 5) sc_has_point_on_it.nd rfl (Or.inl rfl)) (pgs_cons (pg_name (i := 6) sc_has_point_on_it.nd rfl (Or.inl rfl)) pgs_nil)))
        (pss_one (ps_if (PW.pt (pw_and (pt_val (pe_c c_lies_on hr (by decide) (by rfl) (pa_cons (pv 6) (pa_cons (pv 3) (pa_cons (pv 4) pa_nil))))) (pw_and1 (pt_cmpR op_notIn_seq (pv 5) (pv 1) rfl)))) (pss_one (ps_ret pe_bl)) pss_nil)))
      (pss_one (ps_ret pe_bl)))))), fun Q kq => ?_⟩
  replace kq : ∀ H', Ex H H' → Q (.bl (onIt S l)) H' := kq
  rw [onIt] at kq
  have m1 : Mono (A3 K fun r p q => .bl (GlaPlan.isOn p q r)) := A3.mono
  obtain ⟨u1, g1, i1⟩ := ip.pt hl1
  obtain ⟨u2, g2, i2⟩ := ip.pt hl2
  replace hl := st_of (K := K) hl
  apply q_asg
  · walk_at "ev"
  · intro H1 e1
    have hp1 := ex_l e1 hp
    have hl1' := ex_t e1 hl
    apply q_asg
    · walk_at "ev"
    · intro H2 e2
      have hp2 := ex_l (e1.trans e2) hp
      have hl2' := ex_t (e1.trans e2) hl
      apply q_asg
      · walk_at "ev"
      · intro H3 e3
        have e03 := (e1.trans e2).trans e3
        apply q_enumS monoPt (ev_var rfl) (ex_l e03 hp) (ip.mono monoPt e03) (fun i σ' => ∃ y z, σ' = [some (.ref a), some (.ref al), some (.ref lp), some u1, some u2, y, z] ∧ (List.range S.pts.length).any (fun (k : Nat) => k != l.1 && (k != l.2 && GlaPlan.isOn (S.pt l.1) (S.pt l.2) (S.pt k))) = ((List.range S.pts.length).drop i).any (fun (k : Nat) => k != l.1 && (k != l.2 && GlaPlan.isOn (S.pt l.1) (S.pt l.2) (S.pt k))))
        · exact ⟨none, none, rfl, rfl⟩
        · rintro i p v σ' H4 hx e4 iv ⟨y, z, rfl, hF⟩
          have hi := (List.getElem?_eq_some_iff.1 hx).1
          have ep : p = S.pt i := by
            rw [Geo.pt_get hi] at hx; exact (Option.some.inj hx).symm
          subst ep
          rw [any_drop hi] at hF
          have a1 : A3 K (fun r p q => .bl (GlaPlan.isOn p q r)) [v, u1, u2] H4 (.bl (GlaPlan.isOn (S.pt l.1) (S.pt l.2) (S.pt i))) := ⟨_, _, _, S.pt i, S.pt l.1, S.pt l.2, rfl, iv, i1.mono (e03.trans e4), i2.mono (e03.trans e4), rfl⟩
          have hl4 := ex_t (e03.trans e4) hl
          apply s_when (b := i != l.1 && (i != l.2 && GlaPlan.isOn (S.pt l.1) (S.pt l.2) (S.pt i)))
          · refine et_is (a := GlaPlan.isOn (S.pt l.1) (S.pt l.2) (S.pt i) && !inV (.int i) [.int l.1, .int l.2]) (et_and ?_ ?_) ?_
            · walk_at "ev"
            · intro _
              apply et_test
              refine ev_op (x := .int (i : Nat)) (y := .ref al) (ev_var rfl) (ev_var rfl) (rv_niT hl4 rfl rfl)
            · rw [inV_two, Bool.eq_iff_iff]
              simp only [Bool.and_eq_true, Bool.not_eq_true', Bool.or_eq_false_iff, decide_eq_false_iff_not, bne_iff_ne]
              constructor
              · rintro ⟨h1, h2, h3⟩; exact ⟨by omega, by omega, h1⟩
              · rintro ⟨h1, h2, h3⟩; exact ⟨h3, by omega, by omega⟩
          · intro hb H5 e5
            rw [hb, Bool.true_or] at hF
            apply s_ret
            · exact ev_c
            · intro H6 e6
              have := kq H6 (((e03.trans e4).trans e5).trans e6)
              rw [hF] at this; exact this
          · intro hb H5 e5
            rw [hb, Bool.false_or] at hF
            exact ⟨⟨_, _, rfl, hF⟩, e4.trans e5⟩
        · rintro σ' H4 ⟨y, z, rfl, hF⟩ e4
          have e : (List.range S.pts.length).drop S.pts.length = [] := by simp
          rw [e, List.any_nil] at hF
          rw [hF] at kq
          apply s_ret
          · exact ev_c
          · exact fun H5 e5 => kq H5 ((e03.trans e4).trans e5)
end
end Hl
end PHl5

section PHl6
set_option Elab.async false
set_option linter.all false
set_option maxRecDepth 100000
set_option maxHeartbeats 2000000
local macro_rules | `(tactic| walk_at "ev") => `(tactic| (first
  | exact Evl.ev_c
  | exact Evl.ev_var rfl
  | (apply Hl.ev_I0 <;> walk_at "ev")
  | (apply Hl.ev_I <;> walk_at "ev")
  | (apply Hl.ev_ixT <;> walk_at "ev")
  | (apply Hl.ev_ixL <;> walk_at "ev")
  | exact Evl.ea_nil
  | (apply Evl.ea_cons <;> walk_at "ev")
  | (apply Hl.ev_callV <;> first | assumption | walk_at "ev")
  | (apply Hl.ev_eq <;> walk_at "ev")
  | (apply Hl.ev_ne <;> walk_at "ev")
  | (apply Hl.ev_fld <;> first | assumption | walk_at "ev")
  | (apply Hl.ev_lenL <;> first | assumption | walk_at "ev")
  | (apply Hl.ev_chain <;> first | (refine fun (_ : _ = _) => ?_; walk_at "ev") | walk_at "ev")
  | (apply Evl.ev_orV <;> first | (refine fun (_ : _ = _) => ?_; walk_at "ev") | walk_at "ev")
  | (apply Evl.ev_andV <;> first | (refine fun (_ : _ = _) => ?_; walk_at "ev") | walk_at "ev")
  | (apply Evl.ev_notV <;> walk_at "ev")
  | (apply Evl.et_test <;> walk_at "ev")
  | (apply Evl.et_B <;> walk_at "ev")
  | (apply Evl.et_not <;> walk_at "ev")
  | (apply Evl.et_and <;> first | (refine fun (_ : _ = _) => ?_; walk_at "ev") | walk_at "ev")
  | (apply Evl.et_or <;> first | (refine fun (_ : _ = _) => ?_; walk_at "ev") | walk_at "ev")
  | assumption
  | (exact Evl.st_of (by assumption))
  | exact rfl
  | skip))

namespace Hl
open PySem PySem.Spec PyProof.Rows L2 Evl
open GlaPlan (Pt Plan)
section
variable {P : Program} {w : World} {K : PySem.W.Frag} {mg : Str → Option Value} {base : Heap} {C : Addr}
theorem ev_callL {A : List V → Hp → V → Prop} {σ : L2.St} {H : Hp} {ta tb tl : TE} {x y v : V} {xs : List V} (ha : Ev ta σ H x) (hb : Ev tb σ H y) (hl : EvL tl σ H xs) (h : ∀ p H1, Ex H H1 → H1 p = some (.lst xs) → A [x, y, .ref p] H1 v) :
    Ev (tCall (spV A) [] E0 (tCons ta (tCons tb (tCons tl tNil)))) σ H v := fun H1 e Q q =>
  ha H1 e _ fun H2 e2 => hb H2 (e.trans e2) _ fun H3 e3 => hl H3 ((e.trans e2).trans e3) _ fun p H4 _ e4 h4 =>
    ⟨v, h p H4 (((e.trans e2).trans e3).trans e4) h4, fun H5 e5 => q H5 (((e2.trans e3).trans e4).trans e5)⟩
def inP (S : Plan) (m : Nat × Nat) : Prop := m.1 < S.pts.length ∧ m.2 < S.pts.length
def Acr (K : PySem.W.Frag) (C : Addr) : List V → Hp → V → Prop := fun vs H v => ∃ (x y z : V) (S : Plan) (l : Nat × Nat) (ms : List (Nat × Nat)), vs = [x, y, z] ∧ isDr K C S x H ∧ isPr K l y H ∧ isL K (isPr K) ms z H ∧ inP S l ∧ (∀ m ∈ ms, inP S m) ∧
  v = .bl (ms.any fun m => GlaPlan.crosses (S.pt l.1) (S.pt l.2) (S.pt m.1) (S.pt m.2))
theorem Acr.mono : Mono (Acr K C) := fun vs H H' v e ⟨x, y, z, S, l, ms, h, h1, h2, h3, h4⟩ => ⟨x, y, z, S, l, ms, h, h1.mono e, h2.mono e, h3.mono monoPr e, h4⟩
theorem any_drop' {α : Type} {p : α → Bool} {l : List α} {i : Nat} {x : α} (h : l[i]? = some x) : (l.drop i).any p = (p x || (l.drop (i + 1)).any p) := by
  obtain ⟨h1, h2⟩ := List.getElem?_eq_some_iff.1 h
  rw [List.drop_eq_getElem_cons h1, h2, List.any_cons]
abbrev s_crosses_one_of : Stmt := topS 69
abbrev N_crosses_one_of : List Str := ["drawing", "line", "others", "points", "p", "q", "other"]
theorem sc_crosses_one_of : FnScope N_crosses_one_of ["drawing", "line", "others"] (defScope s_crosses_one_of) := ⟨rfl, rfl, rfl, by decide +kernel, rfl, by decide +kernel, by decide +kernel⟩
theorem k_crosses_one_of (T : Txt K mg) (D : DrC K C) (F : Dfn K mg "crosses_one_of" s_crosses_one_of ["drawing", "line", "others"]) (c_cross : Cal P w K mg base 3 "cross" (spV (A4 K fun p q r s => .bl (GlaPlan.crosses p q r s)))) :
    Cal P w K mg base 4 "crosses_one_of" (spV (Acr K C)) := by
  refine mk_V F sc_crosses_one_of (fun vs H v h => by obtain ⟨_, _, _, _, _, _, rfl, _⟩ := h; rfl) (fun f cdv A' outer s H vs E v hr a => ?_)
  obtain ⟨x, y, z, S, l, ms, rfl, id, ⟨al, rfl, hl⟩, ⟨am, um, rfl, hm, im⟩, ⟨hl1, hl2⟩, hms, rfl⟩ := a
  obtain ⟨a, dx, fs, vp, vl, vm, rfl, h2, f1, f2, f3, f4, f5, ⟨lp, us, rfl, hp, ip⟩, il, imk⟩ := id
  have cl := D.cl
  have n3 := D.n3
  refine ⟨_, (pss_cons (ps_set (i := 3) sc_crosses_one_of.nd rfl (Or.inl rfl) (pe_fld (pv 0) rfl))
      (pss_cons (ps_set (i := 4) sc_crosses_one_of.nd rfl (Or.inl rfl) (pe_ix ix_list (pv 3) (pe_ix ix_tup (pv 1) pe_int (fun _ _ => rfl)) (fun _ _ => rfl)))
      (pss_cons (ps_set (i := 5) sc_crosses_one_of.nd rfl (Or.inl rfl) (pe_ix ix_list (pv 3) (pe_ix ix_tup (pv 1) pe_int (fun _ _ => rfl)) (fun _ _ => rfl)))
      (pss_cons (ps_for PassesOwn.never rfl (pi_list (pv 2)) (pg_name (i := 6) sc_crosses_one_of.nd rfl (Or.inl rfl))
        (pss_one (ps_if (pt_val (pe_c c_cross hr (by decide) (by rfl) (pa_cons (pv 4) (pa_cons (pv 5) (pa_cons (pe_ix ix_list (pv 3) (pe_ix ix_tup (pv 6) pe_int (fun _ _ => rfl)) (fun _ _ => rfl)) (pa_cons (pe_ix ix_list (pv 3) (pe_ix ix_tup (pv 6) pe_int (fun _ _ => rfl)) (fun _ _ => rfl)) pa_nil)))))) (pss_one (ps_ret pe_bl)) pss_nil)))
      (pss_one (ps_ret pe_bl)))))), fun Q kq => ?_⟩
  have m1 : Mono (A4 K fun p q r s => .bl (GlaPlan.crosses p q r s)) := A4.mono
  obtain ⟨u1, g1, i1⟩ := ip.pt hl1
  obtain ⟨u2, g2, i2⟩ := ip.pt hl2
  replace hl := st_of (K := K) hl
  apply q_asg
  · walk_at "ev"
  · intro H1 e1
    have hp1 := ex_l e1 hp
    have hl1' := ex_t e1 hl
    apply q_asg
    · walk_at "ev"
    · intro H2 e2
      have hp2 := ex_l (e1.trans e2) hp
      have hl2' := ex_t (e1.trans e2) hl
      apply q_asg
      · walk_at "ev"
      · intro H3 e3
        have e03 := (e1.trans e2).trans e3
        apply q_listS monoPr (ev_var rfl) (ex_l e03 hm) (im.mono monoPr e03) (fun i σ' => ∃ y, σ' = [some (.ref a), some (.ref al), some (.ref am), some (.ref lp), some u1, some u2, y] ∧ ms.any (fun m => GlaPlan.crosses (S.pt l.1) (S.pt l.2) (S.pt m.1) (S.pt m.2)) = (ms.drop i).any (fun m => GlaPlan.crosses (S.pt l.1) (S.pt l.2) (S.pt m.1) (S.pt m.2)))
        · exact ⟨none, rfl, rfl⟩
        · rintro i m v σ' H4 hx e4 iv ⟨y, rfl, hF⟩
          rw [any_drop' hx] at hF
          obtain ⟨hm1, hm2⟩ := hms m (List.mem_of_getElem? hx)
          obtain ⟨u3, g3, i3⟩ := ip.pt hm1
          obtain ⟨u4, g4, i4⟩ := ip.pt hm2
          obtain ⟨av, rfl, hv⟩ := iv
          have e04 := e03.trans e4
          have hp4 := ex_l e04 hp
          have a1 : A4 K (fun p q r s => .bl (GlaPlan.crosses p q r s)) [u1, u2, u3, u4] H4 (.bl (GlaPlan.crosses (S.pt l.1) (S.pt l.2) (S.pt m.1) (S.pt m.2))) := ⟨_, _, _, _, _, _, _, _, rfl, i1.mono e04, i2.mono e04, i3.mono e04, i4.mono e04, rfl⟩
          apply s_when (b := GlaPlan.crosses (S.pt l.1) (S.pt l.2) (S.pt m.1) (S.pt m.2))
          · walk_at "ev"
          · intro hb H5 e5
            rw [hb, Bool.true_or] at hF
            apply s_ret
            · exact ev_c
            · intro H6 e6
              have := kq H6 ((e04.trans e5).trans e6)
              rw [hF] at this; exact this
          · intro hb H5 e5
            rw [hb, Bool.false_or] at hF
            exact ⟨⟨_, rfl, hF⟩, e4.trans e5⟩
        · rintro σ' H4 ⟨y, rfl, hF⟩ e4
          rw [List.drop_length, List.any_nil] at hF
          rw [hF] at kq
          apply s_ret
          · exact ev_c
          · exact fun H5 e5 => kq H5 ((e03.trans e4).trans e5)
theorem Its.take {α : Type} {R : α → V → Hp → Prop} {xs : List α} {us : List V} {H : Hp} (h : Its R xs us H) (n : Nat) : Its R (xs.take n) (us.take n) H := by
  refine ⟨by rw [List.length_take, List.length_take, h.1], fun i x hx => ?_⟩
  rw [List.getElem?_take] at hx ⊢
  by_cases q : i < n
  · rw [if_pos q] at hx ⊢; exact h.2 i x hx
  · rw [if_neg q] at hx; cases hx
theorem Its.drop {α : Type} {R : α → V → Hp → Prop} {xs : List α} {us : List V} {H : Hp} (h : Its R xs us H) (n : Nat) : Its R (xs.drop n) (us.drop n) H := by
  refine ⟨by rw [List.length_drop, List.length_drop, h.1], fun i x hx => ?_⟩
  rw [List.getElem?_drop] at hx ⊢
  exact h.2 _ x hx
def GL (S : Plan) : Prop := ∀ m ∈ S.lines, inP S m
def fCross (S : Plan) : Option Nat := (Geo.fa0 (GlaPlan.touches S) 0 S.lines).map (GlaPlan.linePlace S)
abbrev s_crossing_fault : Stmt := topS 70
abbrev N_crossing_fault : List Str := ["drawing", "lines", "i", "line"]
theorem sc_crossing_fault : FnScope N_crossing_fault ["drawing"] (defScope s_crossing_fault) := ⟨rfl, rfl, rfl, by decide +kernel, rfl, by decide +kernel, by decide +kernel⟩
theorem k_crossing_fault (T : Txt K mg) (D : DrC K C) (F : Dfn K mg "crossing_fault" s_crossing_fault ["drawing"]) (c_line_place : Cal P w K mg base 2 "line_place" (spV (Adn K C GlaPlan.linePlace))) (c_has_point_on_it : Cal P w K mg base 3 "has_point_on_it" (spV (Adl K C fun S l => .bl (onIt S l)))) (c_crosses_one_of : Cal P w K mg base 4 "crosses_one_of" (spV (Acr K C))) :
    Cal P w K mg base 5 "crossing_fault" (spV (Ado K C GL fun S => opV (fCross S))) := by
  refine mk_V F sc_crossing_fault (fun vs H v h => h.len) (fun f cdv A' outer s H vs E v hr a => ?_)
  obtain ⟨x, S, rfl, id, gl, rfl⟩ := a
  have id0 := id
  obtain ⟨a, dx, fs, vp, vl, vm, rfl, h2, f1, f2, f3, f4, f5, ip, ⟨ll, ul, rfl, hl, il⟩, im⟩ := id
  have cl := D.cl
  have n4 := D.n4
  refine ⟨_, (pss_cons (ps_set (i := 1) sc_crossing_fault.nd rfl (Or.inl rfl) (pe_fld (pv 0) rfl))
      (pss_cons (ps_for PassesOwn.never rfl (pi_enum (by rfl) T.enumerate (pa_cons (pv 1) pa_nil)) (pg_tup (by rfl) (pgs_cons (pg_name (i := 2) sc_crossing_fault.nd rfl (Or.inl rfl)) (pgs_cons (pg_name (i := 3) sc_crossing_fault.nd rfl (Or.inl rfl)) pgs_nil)))
        (pss_one (ps_if (PW.pt (pw_or (pt_val (pe_c c_has_point_on_it hr (by decide) (by rfl) (pa_cons (pv 0) (pa_cons (pv 3) pa_nil)))) (pw_or1 (pt_val (pe_c c_crosses_one_of hr (by decide) (by rfl) (pa_cons (pv 0) (pa_cons (pv 3) (pa_cons (pe_slice sl_list (pv 1) po_none (po_some (pv 2))) pa_nil)))))))) (pss_one (ps_ret (pe_c c_line_place hr (by decide) (by rfl) (pa_cons (pv 0) (pa_cons (pv 2) pa_nil))))) pss_nil)))
      (pss_one (ps_ret pe_non)))), fun Q kq => ?_⟩
  replace kq : ∀ H', Ex H H' → Q (opV (fCross S)) H' := kq
  rw [fCross] at kq
  have m1 : Mono (Adn K C GlaPlan.linePlace) := Adn.mono
  have m2 : Mono (Adl K C fun S l => .bl (onIt S l)) := Adl.mono
  apply q_asg
  · walk_at "ev"
  · intro H1 e1
    apply q_enumS monoPr (ev_var rfl) (ex_l e1 hl) (il.mono monoPr e1) (fun i σ' => ∃ y z, σ' = [some (.ref a), some (.ref ll), y, z] ∧ Geo.fa0 (GlaPlan.touches S) 0 S.lines = Geo.fa0 (GlaPlan.touches S) i (S.lines.drop i))
    · exact ⟨none, none, rfl, rfl⟩
    · rintro i m v σ' H2 hx e2 iv ⟨y, z, rfl, hF⟩
      rw [fa0_drop hx] at hF
      have e02 := e1.trans e2
      have hm := gl m (List.mem_of_getElem? hx)
      have a2 : Adl K C (fun S l => .bl (onIt S l)) [.ref a, v] H2 (.bl (onIt S m)) := ⟨_, _, S, m, rfl, id0.mono e02, iv, hm.1, hm.2, rfl⟩
      apply s_when (b := GlaPlan.touches S i m)
      · refine et_is (a := onIt S m || (S.lines.take i).any fun n => GlaPlan.crosses (S.pt m.1) (S.pt m.2) (S.pt n.1) (S.pt n.2)) (et_or ?_ ?_) rfl
        · walk_at "ev"
        · intro _
          apply et_B
          refine ev_callL (xs := ul.take i) (ev_var rfl) (ev_var rfl) ?_ (fun p H3 e3 h3 => ?_)
          · rw [← cut_to]
            exact el_sl (te := tVar 1) (ev_var rfl) eo_none (eo_some (ev_var rfl)) (ex_l e02 hl)
          · exact ⟨_, _, _, S, m, S.lines.take i, rfl, id0.mono (e02.trans e3), iv.mono e3, ⟨p, _, rfl, sq_of h3, (il.mono monoPr (e02.trans e3)).take i⟩, hm, fun n hn => gl n (List.mem_of_mem_take hn), rfl⟩
      · intro hb H3 e3
        rw [if_pos hb] at hF
        have a1 : Adn K C GlaPlan.linePlace [.ref a, .int i] H3 (.int (GlaPlan.linePlace S i : Nat)) := ⟨_, S, i, rfl, id0.mono (e02.trans e3), rfl⟩
        apply s_ret
        · walk_at "ev"
        · intro H4 e4
          have := kq H4 ((e02.trans e3).trans e4)
          rw [hF] at this; exact this
      · intro hb H3 e3
        rw [hb, if_neg Bool.false_ne_true] at hF
        exact ⟨⟨_, _, rfl, hF⟩, e2.trans e3⟩
    · rintro σ' H2 ⟨y, z, rfl, hF⟩ e2
      rw [fa0_end] at hF
      rw [hF] at kq
      apply s_ret
      · exact ev_c
      · exact fun H3 e3 => kq H3 ((e1.trans e2).trans e3)
/-! ### marks -/
def GP (S : Plan) : Prop := GL S
abbrev s_on_some_line : Stmt := topS 74
abbrev N_on_some_line : List Str := ["drawing", "mark", "points", "line"]
theorem sc_on_some_line : FnScope N_on_some_line ["drawing", "mark"] (defScope s_on_some_line) := ⟨rfl, rfl, rfl, by decide +kernel, rfl, by decide +kernel, by decide +kernel⟩
theorem k_on_some_line (T : Txt K mg) (D : DrC K C) (F : Dfn K mg "on_some_line" s_on_some_line ["drawing", "mark"]) (c_lies_on : Cal P w K mg base 2 "lies_on" (spV (A3 K fun r p q => .bl (GlaPlan.isOn p q r)))) :
    Cal P w K mg base 3 "on_some_line" (spV fun vs H v => ∃ (x y : V) (S : Plan) (p : Pt), vs = [x, y] ∧ isDr K C S x H ∧ isPt K p y H ∧ GL S ∧ v = .bl (GlaPlan.onLines S p)) := by
  refine mk_V F sc_on_some_line (fun vs H v h => by obtain ⟨_, _, _, _, rfl, _⟩ := h; rfl) (fun f cdv A' outer s H vs E v hr a => ?_)
  obtain ⟨x, y, S, p, rfl, id, iy, gl, rfl⟩ := a
  obtain ⟨a, dx, fs, vp, vl, vm, rfl, h2, f1, f2, f3, f4, f5, ⟨lp, us, rfl, hp, ip⟩, ⟨ll, ul, rfl, hl, il⟩, im⟩ := id
  have cl := D.cl
  have n3 := D.n3
  have n4 := D.n4
  refine ⟨_, (pss_cons (ps_set (i := 2) sc_on_some_line.nd rfl (Or.inl rfl) (pe_fld (pv 0) rfl))
      (pss_cons (ps_for PassesOwn.never rfl (pi_list (pe_fld (pv 0) rfl)) (pg_name (i := 3) sc_on_some_line.nd rfl (Or.inl rfl))
        (pss_one (ps_if (pt_val (pe_c c_lies_on hr (by decide) (by rfl) (pa_cons (pv 1) (pa_cons (pe_ix ix_list (pv 2) (pe_ix ix_tup (pv 3) pe_int (fun _ _ => rfl)) (fun _ _ => rfl)) (pa_cons (pe_ix ix_list (pv 2) (pe_ix ix_tup (pv 3) pe_int (fun _ _ => rfl)) (fun _ _ => rfl)) pa_nil))))) (pss_one (ps_ret pe_bl)) pss_nil)))
      (pss_one (ps_ret pe_bl)))), fun Q kq => ?_⟩
  replace kq : ∀ H', Ex H H' → Q (.bl (S.lines.any fun (l : Nat × Nat) => GlaPlan.isOn (S.pt l.1) (S.pt l.2) p)) H' := kq
  have m1 : Mono (A3 K fun r p q => .bl (GlaPlan.isOn p q r)) := A3.mono
  apply q_asg
  · walk_at "ev"
  · intro H1 e1
    have h21 := e1 _ _ h2
    apply q_listS monoPr (a := ll) (us := ul) (xs := S.lines) _ (ex_l e1 hl) (il.mono monoPr e1) (fun i σ' => ∃ z, σ' = [some (.ref a), some y, some (.ref lp), z] ∧ (S.lines.any fun (l : Nat × Nat) => GlaPlan.isOn (S.pt l.1) (S.pt l.2) p) = ((S.lines.drop i).any fun (l : Nat × Nat) => GlaPlan.isOn (S.pt l.1) (S.pt l.2) p))
    · exact ⟨none, rfl, rfl⟩
    · rintro i m v σ' H2 hx e2 iv ⟨z, rfl, hF⟩
      rw [any_drop' hx] at hF
      have e02 := e1.trans e2
      obtain ⟨hm1, hm2⟩ := gl m (List.mem_of_getElem? hx)
      obtain ⟨u3, g3, i3⟩ := ip.pt hm1
      obtain ⟨u4, g4, i4⟩ := ip.pt hm2
      obtain ⟨av, rfl, hv⟩ := iv
      have hp2 := ex_l e02 hp
      have a1 : A3 K (fun r p q => .bl (GlaPlan.isOn p q r)) [y, u3, u4] H2 (.bl (GlaPlan.isOn (S.pt m.1) (S.pt m.2) p)) := ⟨_, _, _, _, _, _, rfl, iy.mono e02, i3.mono e02, i4.mono e02, rfl⟩
      apply s_when (b := GlaPlan.isOn (S.pt m.1) (S.pt m.2) p)
      · walk_at "ev"
      · intro hb H3 e3
        rw [hb, Bool.true_or] at hF
        apply s_ret
        · exact ev_c
        · intro H4 e4
          have := kq H4 ((e02.trans e3).trans e4)
          rw [hF] at this; exact this
      · intro hb H3 e3
        rw [hb, Bool.false_or] at hF
        exact ⟨⟨_, rfl, hF⟩, e2.trans e3⟩
    · rintro σ' H2 ⟨z, rfl, hF⟩ e2
      rw [List.drop_length, List.any_nil] at hF
      rw [hF] at kq
      apply s_ret
      · exact ev_c
      · exact fun H3 e3 => kq H3 ((e1.trans e2).trans e3)
    · walk_at "ev"
end
end Hl
end PHl6

section PRl4
set_option Elab.async false
set_option linter.all false
set_option maxRecDepth 100000
set_option maxHeartbeats 2000000
namespace Hl
open PySem PySem.Spec PyProof.Rows L2 Evl
open PySem.SeqAt (EqAt)
/-! ### xs.count(True) -/
def bolE (k : Bool) (v : Value) : Bool := match v with
  | .bool b => b == k
  | _ => false
theorem vals_bl : ∀ {us : List Value} {bs : List Bool}, Vals (bs.map V.bl) us → us = bs.map Value.bool
  | us, [], h => by cases h; rfl
  | us, b :: r, h => by
    cases h with
    | cons h1 h2 =>
      rw [vals_bl h2]
      rw [show _ = Value.bool b from h1]; rfl
def rCntB (K : PySem.W.Frag) : V → List V → Hp → VK → Prop := fun x xs H Q => ∃ (p : Addr) (bs : List Bool) (k : Bool), x = .ref p ∧ xs = [.bl k] ∧ SqL K H p (bs.map V.bl) ∧ Q (.int (bs.count k : Nat)) H
theorem mt_countB {X : Cx} : MtR X "list.count" (rCntB X.K) := by
  intro pins s σ H x xs v us Q I rx rxs h
  obtain ⟨p, bs, k, rfl, rfl, hs, q⟩ := h
  cases rx
  obtain ⟨u, rfl, ru⟩ := rxs.one
  obtain rfl : u = Value.bool k := ru
  obtain ⟨its, rv, ⟨⟨cls, dd, data, sl⟩, n, ho, hc, hdn, hd⟩, hlen⟩ := I.list hs
  simp only at hc hd
  subst hc hd
  have hv := vals_bl rv
  subst hv
  refine call_meets PySem.F.slot_list_count ⟨_, ho, rfl⟩ PySem.F.entry_list_count (PySem.F.args_list_count_2 _ _)
    (SeqAt.list_countAt p (bs.map Value.bool).toArray n dd sl (.bool k) (bolE k)) ⟨ho, fun y hy => ?_, ?_⟩
  · have hy' : y ∈ bs.map Value.bool := by simpa using hy
    obtain ⟨b, _, rfl⟩ := List.mem_map.1 hy'
    exact SeqAt.EqAt.bool_bool b k
  · have ec : (bs.map Value.bool).toArray.toList.countP (bolE k) = bs.count k := by
      rw [List.countP_map]; rfl
    refine ⟨.int (bs.count k : Nat), H, I.tok _, ⟨s.toks, ?_⟩, q⟩
    show Value.int (((bs.map Value.bool).toArray.toList.countP (bolE k) : Nat) : Int) s.toks = Value.int ((bs.count k : Nat) : Int) s.toks
    rw [ec]
/-! ### lists of new lists -/
/-- a list of lists of numbers, all of them new since Hb -/
structure NB (Hb H : Hp) (N : Addr) (as : List Addr) (adj : Nat → List Nat) : Prop where
  lst : H N = some (.lst (as.map V.ref))
  nd : as.Nodup
  nn : N ∉ as
  at_ : ∀ (k : Nat) (a : Addr), as[k]? = some a → H a = some (.lst ((adj k).map fun (n : Nat) => V.int (n : Int)))
  fN : Hb N = none
  fa : ∀ a ∈ as, Hb a = none
theorem NB.mono {Hb H H' : Hp} {N : Addr} {as : List Addr} {adj : Nat → List Nat} (n : NB Hb H N as adj) (e : Ex H H') : NB Hb H' N as adj := ⟨e _ _ n.lst, n.nd, n.nn, fun k a h => e _ _ (n.at_ k a h), n.fN, n.fa⟩
theorem NB.put {Hb H : Hp} {N : Addr} {as : List Addr} {adj : Nat → List Nat} (n : NB Hb H N as adj) {k : Nat} {a : Addr} (h : as[k]? = some a) (x : Nat) :
    NB Hb (upd H a (.lst (((adj k).map fun (n : Nat) => V.int (n : Int)) ++ [.int (x : Int)]))) N as (fun j => if j = k then adj k ++ [x] else adj j) := by
  have ha : a ∈ as := List.mem_of_getElem? h
  refine ⟨?_, n.nd, n.nn, fun j b hb => ?_, n.fN, n.fa⟩
  · rw [upd_ne (by rintro rfl; exact n.nn ha)]; exact n.lst
  · by_cases e : j = k
    · subst e
      rw [h] at hb
      obtain rfl := Option.some.inj hb
      rw [upd_same, if_pos rfl, List.map_append]; rfl
    · rw [if_neg e, upd_ne]
      · exact n.at_ j b hb
      · intro q
        subst q
        exact e (nd_ix n.nd hb h)
section
variable {K : PySem.W.Frag} {σ : L2.St} {H H' : Hp} {ta tb te : TE} {vs : List Nat}
theorem ef_lcNew {xs : List V} {tl : TE} {a : Addr} {j : Nat} (h : Ev tl σ H (.ref a)) (hx : SqL K H a xs) (hz : xs.length ≤ 100000) (hw : ∀ x, wipe ((wipe σ vs).set j (some x)) vs = wipe σ vs) :
    ∀ H1, Ex H H1 → ∀ Q : VK, (∀ N as H2, Ex H1 H2 → as.length = xs.length → NB H1 H2 N as (fun _ => []) → Q (.ref N) H2) → tLc (iList K tl) (gName j) tYes (tLst tNil) vs σ H1 Q := fun H0 e Q q =>
  h H0 e _ fun H1 e1 => ⟨a, rfl, ⟨xs, ex_l (e.trans e1) hx⟩, fun Dl hD =>
    lc_list (xs := xs) (fun i H' => ∃ as : List Addr, as.length = i ∧ Ex H1 H' ∧ NB H1 H' Dl as (fun _ => [])) ⟨[], rfl, Ex.new hD, upd_same, List.Pairwise.nil, by simp, fun k b hb => by simp at hb, hD, by simp⟩
      (fun i H' _ ⟨_, _, p, _⟩ => ex_l ((e.trans e1).trans p) hx)
      (fun i x H' hi ⟨as, hl, p, n⟩ => ⟨hw x, by
        unfold tYes
        dsimp only
        rw [if_pos rfl]
        refine ⟨Nat.zero_le _, fun r hr => ⟨as.map V.ref, ?_, ?_, as ++ [r], by simp [hl], ?_, ?_⟩⟩
        · rw [upd_ne (ne_of_none n.lst hr)]; exact n.lst
        · rw [List.length_map, hl]
          have := (List.getElem?_eq_some_iff.1 hi).1
          exact sz_lt (by omega)
        · exact Ex.mut (p.trans (Ex.new hr)) hD
        · have e2 : Ex H' (upd H' r (.lst [])) := Ex.new hr
          have nr : r ∉ as := fun m => by
            obtain ⟨k, hk⟩ := List.mem_iff_getElem?.1 m
            have := n.at_ k r hk
            rw [hr] at this; cases this
          have nrD : r ≠ Dl := fun z => by rw [z] at hr; rw [n.lst] at hr; cases hr
          refine ⟨by rw [upd_same, List.map_append]; rfl, ?_, ?_, ?_, hD, ?_⟩
          · rw [List.nodup_append]
            refine ⟨n.nd, by simp, ?_⟩
            intro x hx y hy
            simp only [List.mem_singleton] at hy
            rw [hy]; rintro rfl; exact nr hx
          · intro m
            rcases List.mem_append.1 m with z | z
            · exact n.nn z
            · simp only [List.mem_singleton] at z; exact nrD z.symm
          · intro k b hb
            by_cases z : k < as.length
            · rw [List.getElem?_append_left z] at hb
              have hbm := List.mem_of_getElem? hb
              rw [upd_ne (by rintro rfl; exact n.nn hbm), upd_ne (by rintro rfl; exact nr hbm)]
              exact n.at_ k b hb
            · rw [List.getElem?_append_right (by omega)] at hb
              have : k - as.length = 0 := by
                rcases Nat.eq_zero_or_pos (k - as.length) with z2 | z2
                · exact z2
                · rw [List.getElem?_eq_none (by simp; omega)] at hb; cases hb
              rw [this] at hb
              obtain rfl : r = b := by simpa using hb
              rw [upd_ne nrD, upd_same]; rfl
          · intro b hb
            rcases List.mem_append.1 hb with z | z
            · exact n.fa b z
            · simp only [List.mem_singleton] at z
              rw [z]; exact fresh_back p hr⟩)
      (fun H' ⟨as, hl, p, n⟩ => q Dl as H' (e1.trans p) hl ⟨n.lst, n.nd, n.nn, n.at_, fresh_back e1 n.fN, fun b hb => fresh_back e1 (n.fa b hb)⟩)⟩
end
/-- lists of lists of numbers -/
def isG (K : PySem.W.Frag) (adj : List (List Nat)) (v : V) (H : Hp) : Prop := isL K (isL K isI) adj v H
theorem monoLI {K : PySem.W.Frag} : MonoR (isL K isI) := fun _ _ _ _ e h => h.mono monoI e
theorem isG.mono {K : PySem.W.Frag} {adj : List (List Nat)} {v : V} {H H' : Hp} (e : Ex H H') (h : isG K adj v H) : isG K adj v H' := isL.mono monoLI e h
theorem its_ints {H : Hp} (l : List Nat) : Its isI l (l.map fun (n : Nat) => V.int (n : Int)) H := by
  refine ⟨by simp, fun i x hx => ⟨.int x, ?_, rfl⟩⟩
  rw [List.getElem?_map, hx]; rfl
theorem NB.isG {K : PySem.W.Frag} {Hb H : Hp} {N : Addr} {as : List Addr} {adj : Nat → List Nat} (n : NB Hb H N as adj) : isG K ((List.range as.length).map adj) (.ref N) H := by
  refine ⟨N, _, rfl, sq_of n.lst, by simp, fun i l hl => ?_⟩
  rw [List.getElem?_map] at hl
  have hi : i < as.length := by
    rcases Nat.lt_or_ge i as.length with z | z
    · exact z
    · rw [List.getElem?_eq_none (by simpa using z)] at hl; cases hl
  rw [List.getElem?_range hi] at hl
  obtain rfl := Option.some.inj hl
  have ha : as[i]? = some as[i] := List.getElem?_eq_getElem hi
  refine ⟨.ref as[i], by rw [List.getElem?_map, ha]; rfl, as[i], _, rfl, sq_of (n.at_ i _ ha), its_ints _⟩
end Hl
end PRl4

section PHl7
set_option Elab.async false
set_option linter.all false
set_option maxRecDepth 100000
set_option maxHeartbeats 2000000
local macro_rules | `(tactic| walk_at "ev") => `(tactic| (first
  | exact Evl.ev_c
  | exact Evl.ev_var rfl
  | (apply Hl.ev_I0 <;> walk_at "ev")
  | (apply Hl.ev_I <;> walk_at "ev")
  | (apply Hl.ev_ixT <;> walk_at "ev")
  | (apply Hl.ev_ixL <;> walk_at "ev")
  | exact Evl.ea_nil
  | (apply Evl.ea_cons <;> walk_at "ev")
  | (apply Hl.ev_callV <;> first | assumption | walk_at "ev")
  | (apply Hl.ev_eq <;> walk_at "ev")
  | (apply Hl.ev_ne <;> walk_at "ev")
  | (apply Hl.ev_fld <;> first | assumption | walk_at "ev")
  | (apply Hl.ev_lenL <;> first | assumption | walk_at "ev")
  | (apply Hl.ev_chain <;> first | (refine fun (_ : _ = _) => ?_; walk_at "ev") | walk_at "ev")
  | (apply Evl.ev_orV <;> first | (refine fun (_ : _ = _) => ?_; walk_at "ev") | walk_at "ev")
  | (apply Evl.ev_andV <;> first | (refine fun (_ : _ = _) => ?_; walk_at "ev") | walk_at "ev")
  | (apply Evl.ev_notV <;> walk_at "ev")
  | (apply Evl.et_test <;> walk_at "ev")
  | (apply Evl.et_B <;> walk_at "ev")
  | (apply Evl.et_not <;> walk_at "ev")
  | (apply Evl.et_and <;> first | (refine fun (_ : _ = _) => ?_; walk_at "ev") | walk_at "ev")
  | (apply Evl.et_or <;> first | (refine fun (_ : _ = _) => ?_; walk_at "ev") | walk_at "ev")
  | assumption
  | (exact Evl.st_of (by assumption))
  | exact rfl
  | skip))

namespace Hl
open PySem PySem.Spec PyProof.Rows L2 Evl
open GlaPlan (Pt Plan)
section
variable {P : Program} {w : World} {K : PySem.W.Frag} {mg : Str → Option Value} {base : Heap} {C : Addr}
def nbr (ls : List (Nat × Nat)) (v : Nat) : List Nat := ls.filterMap fun (l : Nat × Nat) => if l.1 = v then some l.2 else if l.2 = v then some l.1 else none
theorem nbr_len (ls : List (Nat × Nat)) (v : Nat) : (nbr ls v).length ≤ ls.length := List.length_filterMap_le _ _
theorem nbr_snoc (ls : List (Nat × Nat)) (l : Nat × Nat) (h : l.1 ≠ l.2) (v : Nat) : nbr (ls ++ [l]) v = if v = l.2 then nbr ls l.2 ++ [l.1] else if v = l.1 then nbr ls l.1 ++ [l.2] else nbr ls v := by
  rw [nbr, List.filterMap_append]
  by_cases h2 : v = l.2
  · subst h2
    rw [if_pos rfl]
    have : (List.filterMap (fun (k : Nat × Nat) => if k.1 = l.2 then some k.2 else if k.2 = l.2 then some k.1 else none) [l]) = [l.1] := by simp [h]
    rw [this]; rfl
  · rw [if_neg h2]
    by_cases h1 : v = l.1
    · subst h1
      rw [if_pos rfl]
      have : (List.filterMap (fun (k : Nat × Nat) => if k.1 = l.1 then some k.2 else if k.2 = l.1 then some k.1 else none) [l]) = [l.2] := by simp
      rw [this]; rfl
    · rw [if_neg h1]
      have : (List.filterMap (fun (k : Nat × Nat) => if k.1 = v then some k.2 else if k.2 = v then some k.1 else none) [l]) = [] := by simp [Ne.symm h1, Ne.symm h2]
      rw [this, List.append_nil]; rfl
structure GN (S : Plan) : Prop where
  inp : GL S
  lt : ∀ m ∈ S.lines, m.1 < m.2
  np : S.pts.length ≤ 70000
  nl : S.lines.length ≤ 70000
def adjOf (S : Plan) : List (List Nat) := (List.range S.pts.length).map S.near
def Anb (K : PySem.W.Frag) (C : Addr) : List V → Hp → (V → Hp → Prop) → Prop := fun vs H R => ∃ (x : V) (S : Plan), vs = [x] ∧ isDr K C S x H ∧ GN S ∧ R = isG K (adjOf S)
theorem Anb.mono : Mono (Anb K C) := fun vs H H' v e ⟨x, S, h, h1, h2⟩ => ⟨x, S, h, h1.mono e, h2⟩
abbrev s_neighbours_of : Stmt := topS 47
abbrev N_neighbours_of : List Str := ["drawing", "neighbours", "line", "point"]
theorem sc_neighbours_of : FnScope N_neighbours_of ["drawing"] (defScope s_neighbours_of) := ⟨rfl, rfl, rfl, by decide +kernel, rfl, by decide +kernel, by decide +kernel⟩
theorem k_neighbours_of (T : Txt K mg) (D : DrC K C) (F : Dfn K mg "neighbours_of" s_neighbours_of ["drawing"]) : Cal P w K mg base 1 "neighbours_of" (spR (Anb K C)) := by
  refine mk_R F sc_neighbours_of (fun vs H v h => by obtain ⟨_, _, rfl, _⟩ := h; rfl) (fun f cdv A' outer s H vs E v hr a => ?_)
  obtain ⟨x, S, rfl, id, gn, rfl⟩ := a
  obtain ⟨a, dx, fs, vp, vl, vm, rfl, h2, f1, f2, f3, f4, f5, ⟨lp, us, rfl, hp, ip⟩, ⟨ll, ul, rfl, hl, il⟩, im⟩ := id
  have cl := D.cl
  have n3 := D.n3
  have n4 := D.n4
  refine ⟨_, (pss_cons (ps_setLc (i := 1) (own := [("point", 3)]) (by rfl) sc_neighbours_of.nd rfl rfl (sw_true rfl rfl rfl (by decide +kernel)) (pi_list (pe_fld (pv 0) rfl)) (blkOk_by (own := [("point", 3)]) (N := N_neighbours_of) (sc := defScope s_neighbours_of) (by decide +kernel)) (fun _ _ _ _ _ => (pg_name (i := 3) sc_neighbours_of.nd rfl (Or.inl rfl))) (fun _ _ _ _ _ => pts_nil) (fun _ _ _ _ _ => (pe_lst pa_nil)))
      (pss_cons (ps_for PassesOwn.never rfl (pi_list (pe_fld (pv 0) rfl)) (pg_name (i := 2) sc_neighbours_of.nd rfl (Or.inl rfl))
        (pss_cons (ps_expr (pe_bm PySem.F.plainAttrs_list PySem.F.slot_list_append PySem.F.type_list_append mt_append (pe_ix ix_list (pv 1) (pe_ix ix_tup (pv 2) pe_int (fun _ _ => rfl)) (fun _ _ => rfl)) (pa_cons (pe_ix ix_tup (pv 2) pe_int (fun _ _ => rfl)) pa_nil)))
      (pss_one (ps_expr (pe_bm PySem.F.plainAttrs_list PySem.F.slot_list_append PySem.F.type_list_append mt_append (pe_ix ix_list (pv 1) (pe_ix ix_tup (pv 2) pe_int (fun _ _ => rfl)) (fun _ _ => rfl)) (pa_cons (pe_ix ix_tup (pv 2) pe_int (fun _ _ => rfl)) pa_nil))))))
      (pss_one (ps_ret (pv 1))))), fun Q kq => ?_⟩
  apply q_asgX
  refine ef_lcNew (a := lp) (xs := us) ?_ hp (by rw [ip.1]; have := gn.np; omega) ?_ H (Ex.refl H) _ ?_
  · walk_at "ev"
  · exact fun x => rfl
  · intro N as H1 e1 hlen nb
    rw [ip.1] at hlen
    have h21 := e1 _ _ h2
    dsimp only
    apply q_forLn (a := ll) (xs := ul) _ (ex_l e1 hl) (fun i σ' H' => ∃ z y, σ' = [some (.ref a), some (.ref N), z, y] ∧ Ex H H' ∧ NB H H' N as (nbr (S.lines.take i)))
    · intro H2 e2
      refine ⟨_, _, rfl, e1.trans e2, nb.mono e2 |> fun n => ?_⟩
      exact ⟨n.lst, n.nd, n.nn, n.at_, n.fN, n.fa⟩
    · rintro i σ' H' _ ⟨z, y, _, e, _⟩
      exact ex_l e hl
    · rintro i v σ' H2 hv ⟨z, y, rfl, e2, n⟩
      obtain ⟨m, hm, av, rfl, ha⟩ := il.get hv
      have hmem := List.mem_of_getElem? hm
      obtain ⟨m1, m2⟩ := gn.inp m hmem
      have mlt := gn.lt m hmem
      have ha2 := ex_t e2 (st_of (K := K) ha)
      obtain ⟨a1, g1⟩ : ∃ a1, as[m.1]? = some a1 := ⟨_, List.getElem?_eq_getElem (by omega)⟩
      obtain ⟨a2, g2⟩ : ∃ a2, as[m.2]? = some a2 := ⟨_, List.getElem?_eq_getElem (by omega)⟩
      have hlk : ∀ v, (nbr (S.lines.take i) v).length < 100000 := fun v => by
        have q1 := nbr_len (S.lines.take i) v
        rw [List.length_take] at q1
        have := gn.nl
        omega
      have t1 : atI (as.map V.ref) (m.1 : Int) = some (.ref a1) := atI_nat (by rw [List.getElem?_map, g1]; rfl)
      have t2 : atI (as.map V.ref) (m.2 : Int) = some (.ref a2) := atI_nat (by rw [List.getElem?_map, g2]; rfl)
      have nl2 : SqL K H2 N (as.map V.ref) := sq_of n.lst
      refine q_app (v := .int (m.2 : Int)) (n.at_ _ _ g1) ?_ ?_ (by rw [List.length_map]; exact hlk _) ?_
      · walk_at "ev"
      · walk_at "ev"
      · intro H3 e3
        have n3' := (n.mono e3).put g1 m.2
        have ha3 : SqT K (upd H3 a1 (.lst (((nbr (S.lines.take i) m.1).map fun (n : Nat) => V.int (n : Int)) ++ [.int (m.2 : Int)]))) av [.int m.1, .int m.2] := stab_t (e3 _ _ (n.at_ _ _ g1)) (ex_t e3 ha2)
        have nl3 : SqL K (upd H3 a1 (.lst (((nbr (S.lines.take i) m.1).map fun (n : Nat) => V.int (n : Int)) ++ [.int (m.2 : Int)]))) N (as.map V.ref) := sq_of n3'.lst
        have g2' := n3'.at_ _ _ g2
        rw [if_neg (by omega)] at g2'
        have ex3 : Ex H (upd H3 a1 (.lst (((nbr (S.lines.take i) m.1).map fun (n : Nat) => V.int (n : Int)) ++ [.int (m.2 : Int)]))) := Ex.mut (e2.trans e3) (n.fa a1 (List.mem_of_getElem? g1))
        refine s_app (v := .int (m.1 : Int)) g2' ?_ ?_ (by rw [List.length_map]; exact hlk _) ?_
        · walk_at "ev"
        · walk_at "ev"
        · intro H4 e4
          have n4' := (n3'.mono e4).put g2 m.1
          refine ⟨_, _, rfl, Ex.mut (ex3.trans e4) (n.fa a2 (List.mem_of_getElem? g2)), ?_⟩
          rw [if_neg (by omega)] at n4'
          refine ⟨n4'.lst, n4'.nd, n4'.nn, fun k b hb => ?_, n4'.fN, n4'.fa⟩
          have := n4'.at_ k b hb
          rw [this]
          have et : S.lines.take (i + 1) = S.lines.take i ++ [m] := by rw [List.take_add_one, hm]; rfl
          rw [et, nbr_snoc _ _ (by omega)]
    · rintro σ' H2 ⟨z, y, rfl, e2, n⟩
      apply s_ret
      · exact ev_var rfl
      · intro H3 e3
        refine kq _ H3 (e2.trans e3) ?_
        have := (n.mono e3).isG (K := K)
        rw [il.1, List.take_length, hlen] at this
        exact this
    · walk_at "ev"
end
end Hl
end PHl7

section PHl8
set_option Elab.async false
set_option linter.all false
set_option maxRecDepth 100000
set_option maxHeartbeats 2000000
local macro_rules | `(tactic| walk_at "ev") => `(tactic| (first
  | exact Evl.ev_c
  | exact Evl.ev_var rfl
  | (apply Hl.ev_I0 <;> walk_at "ev")
  | (apply Hl.ev_I <;> walk_at "ev")
  | (apply Hl.ev_ixT <;> walk_at "ev")
  | (apply Hl.ev_ixL <;> walk_at "ev")
  | exact Evl.ea_nil
  | (apply Evl.ea_cons <;> walk_at "ev")
  | (apply Hl.ev_callV <;> first | assumption | walk_at "ev")
  | (apply Hl.ev_eq <;> walk_at "ev")
  | (apply Hl.ev_ne <;> walk_at "ev")
  | (apply Hl.ev_fld <;> first | assumption | walk_at "ev")
  | (apply Hl.ev_lenL <;> first | assumption | walk_at "ev")
  | (apply Hl.ev_chain <;> first | (refine fun (_ : _ = _) => ?_; walk_at "ev") | walk_at "ev")
  | (apply Evl.ev_orV <;> first | (refine fun (_ : _ = _) => ?_; walk_at "ev") | walk_at "ev")
  | (apply Evl.ev_andV <;> first | (refine fun (_ : _ = _) => ?_; walk_at "ev") | walk_at "ev")
  | (apply Evl.ev_notV <;> walk_at "ev")
  | (apply Evl.et_test <;> walk_at "ev")
  | (apply Evl.et_B <;> walk_at "ev")
  | (apply Evl.et_not <;> walk_at "ev")
  | (apply Evl.et_and <;> first | (refine fun (_ : _ = _) => ?_; walk_at "ev") | walk_at "ev")
  | (apply Evl.et_or <;> first | (refine fun (_ : _ = _) => ?_; walk_at "ev") | walk_at "ev")
  | assumption
  | (exact Evl.st_of (by assumption))
  | exact rfl
  | skip))

namespace Hl
open PySem PySem.Spec PyProof.Rows L2 Evl
open GlaPlan (Pt Plan)
open Geo (push getD_true seen_set seen_lt)
/-! ### what is come to -/
def firstOf (n : Nat) : Option Nat → Array Bool
  | none => GlaPlan.noneSeen n
  | some k => (GlaPlan.noneSeen n).setIfInBounds k true
def seenB (n : Nat) (sv : Array Bool) (shut : Option Nat) : List Bool := (List.range n).map fun j => decide (sv[j]? = some true) && decide (shut ≠ some j)
def resB (adj : List (List Nat)) (bg : Nat) (shut : Option Nat) : List Bool := seenB adj.length (GlaPlan.seenFrom adj.toArray adj.length bg (firstOf adj.length shut)) shut
def unseen (sv : Array Bool) : Nat := sv.toList.count false
theorem count_set : ∀ (l : List Bool) (t : Nat), l[t]? = some false → (l.set t true).count false + 1 = l.count false
  | [], t, h => by simp at h
  | b :: r, 0, h => by
    obtain rfl : b = false := by simpa using h
    simp
  | b :: r, t + 1, h => by
    have := count_set r t (by simpa using h)
    rw [List.set_cons_succ, List.count_cons, List.count_cons]; omega
theorem unseen_set {sv : Array Bool} {t : Nat} (ht : t < sv.size) (hs : ¬ Geo.Seen sv t) : unseen (sv.setIfInBounds t true) + 1 = unseen sv := by
  rw [unseen, unseen, Array.toList_setIfInBounds]
  refine count_set _ _ ?_
  rw [Geo.Seen, Array.getElem?_eq_getElem ht] at hs
  have : sv[t] = false := by
    cases h : sv[t]
    · rfl
    · rw [h] at hs; exact absurd rfl hs
  rw [← this]; simp [ht]
theorem seenB_len (n : Nat) (sv : Array Bool) (shut : Option Nat) : (seenB n sv shut).length = n := by simp [seenB]
theorem seenB_get {n : Nat} {sv : Array Bool} {shut : Option Nat} {j : Nat} (h : j < n) : (seenB n sv shut)[j]? = some (decide (sv[j]? = some true) && decide (shut ≠ some j)) := by
  rw [seenB, List.getElem?_map, List.getElem?_range h]; rfl
theorem seenB_set {n : Nat} {sv : Array Bool} {shut : Option Nat} {t : Nat} (ht : t < n) (hs : sv.size = n) (hn : shut ≠ some t) : seenB n (sv.setIfInBounds t true) shut = (seenB n sv shut).set t true := by
  refine List.ext_getElem? fun j => ?_
  by_cases hj : j < n
  · rw [seenB_get hj, List.getElem?_set]
    by_cases e : t = j
    · subst e
      rw [if_pos rfl, if_pos (by rw [seenB_len]; exact ht)]
      have : (sv.setIfInBounds t true)[t]? = some true := by rw [Array.getElem?_setIfInBounds]; simp [hs, ht]
      rw [this]; simp [hn]
    · rw [if_neg e, seenB_get hj]
      have : (sv.setIfInBounds t true)[j]? = sv[j]? := by rw [Array.getElem?_setIfInBounds, if_neg e]
      rw [this]
  · rw [List.getElem?_eq_none (by rw [seenB_len]; omega), List.getElem?_eq_none (by rw [List.length_set, seenB_len]; omega)]
/-- a walk's state, a turn on -/
structure Go (n : Nat) (shut : Option Nat) (m : Nat) (st : List Nat × Array Bool) : Prop where
  sz : st.2.size = n
  sh : ∀ k, shut = some k → Geo.Seen st.2 k
  td : ∀ k ∈ st.1, k < n
  le : st.1.length + unseen st.2 ≤ m
theorem Go.push1 {n : Nat} {shut : Option Nat} {m : Nat} {st : List Nat × Array Bool} (g : Go n shut m st) {t : Nat} (ht : t < n) (hs : ¬ Geo.Seen st.2 t) : Go n shut m (t :: st.1, st.2.setIfInBounds t true) := by
  have hz : t < st.2.size := by rw [g.sz]; exact ht
  refine ⟨by simp [g.sz], fun k hk => (seen_set hz).2 (.inr (g.sh k hk)), fun k hk => ?_, ?_⟩
  · rcases List.mem_cons.1 hk with h | h
    · rw [h]; exact ht
    · exact g.td k h
  · have := unseen_set hz hs
    have := g.le
    simp only [List.length_cons]; omega
theorem push_snoc (l : List Nat) (t : Nat) (a : List Nat × Array Bool) : push (l ++ [t]) a = if (push l a).2.getD t true = true then push l a else (t :: (push l a).1, (push l a).2.setIfInBounds t true) := by
  rw [push, List.foldl_append]; rfl
section
variable {P : Program} {w : World} {K : PySem.W.Frag} {mg : Str → Option Value} {base : Heap} {C : Addr}
def GA (adj : List (List Nat)) : Prop := (∀ l ∈ adj, ∀ j ∈ l, j < adj.length) ∧ adj.length ≤ 70000
def Arch (K : PySem.W.Frag) : List V → Hp → (V → Hp → Prop) → Prop := fun vs H R => ∃ (x : V) (adj : List (List Nat)) (bg : Nat) (shut : Option Nat), vs = [x, .int bg, opV shut] ∧ isG K adj x H ∧ GA adj ∧ bg < adj.length ∧ shut ≠ some bg ∧
  (∀ k, shut = some k → k < adj.length) ∧ R = fun v H' => ∃ p, v = .ref p ∧ H' p = some (.lst ((resB adj bg shut).map V.bl))
theorem Arch.mono : Mono (Arch K) := fun vs H H' v e ⟨x, adj, bg, shut, h, h1, h2⟩ => ⟨x, adj, bg, shut, h, h1.mono e, h2⟩
def isBo (b : Bool) (v : V) (_ : Hp) : Prop := v = .bl b
theorem its_bo : ∀ {bs : List Bool} {us : List V} {H : Hp}, Its isBo bs us H → us = bs.map V.bl := by
  intro bs us H h
  refine List.ext_getElem? fun i => ?_
  rw [List.getElem?_map]
  cases e : bs[i]? with
  | none =>
    rw [List.getElem?_eq_none_iff] at e
    rw [List.getElem?_eq_none (by rw [h.1]; exact e)]; rfl
  | some b =>
    obtain ⟨v, h1, h2⟩ := h.2 i b e
    rw [h1, h2]; rfl
theorem opV_ne (t : Nat) (shut : Option Nat) : (!decide (V.int (t : Int) = opV shut)) = decide (shut ≠ some t) := by
  cases shut with
  | none => simp [opV]
  | some k =>
    simp only [opV]
    rw [Bool.eq_iff_iff]; simp; omega
theorem scal_op (t : Nat) (shut : Option Nat) : scal (.int (t : Int)) (opV shut) = true := by cases shut <;> rfl
abbrev s_reached : Stmt := topS 48
abbrev N_reached : List Str := ["neighbours", "start", "shut", "seen", "waiting", "here", "there", "point"]
theorem sc_reached : FnScope N_reached ["neighbours", "start", "shut"] (defScope s_reached) := ⟨rfl, rfl, rfl, by decide +kernel, rfl, by decide +kernel, by decide +kernel⟩
theorem k_reached (F : Dfn K mg "reached" s_reached ["neighbours", "start", "shut"]) : Cal P w K mg base 1 "reached" (spR (Arch K)) := by
  refine mk_R F sc_reached (fun vs H v h => by obtain ⟨_, _, _, _, rfl, _⟩ := h; rfl) (fun f cdv A' outer s H vs E v hr a => ?_)
  obtain ⟨x, adj, bg, shut, rfl, ⟨N, vs, rfl, hN, iN⟩, ⟨ga, gl⟩, hst, hsh, hshn, rfl⟩ := a
  generalize hfin : GlaPlan.seenFrom adj.toArray adj.length bg (firstOf adj.length shut) = fin at *
  refine ⟨_, (pss_cons (ps_setLc (i := 3) (own := [("point", 7)]) (by rfl) sc_reached.nd rfl rfl (sw_true rfl rfl rfl (by decide +kernel)) (pi_list (pv 0)) (blkOk_by (own := [("point", 7)]) (N := N_reached) (sc := defScope s_reached) (by decide +kernel)) (fun _ _ _ _ _ => (pg_name (i := 7) sc_reached.nd rfl (Or.inl rfl))) (fun _ _ _ _ _ => pts_nil) (fun _ _ _ _ _ => pe_bl))
      (pss_cons (ps_asg pe_bl (pg_sub (pv 3) (pv 1) set_list))
      (pss_cons (ps_set (i := 4) sc_reached.nd rfl (Or.inl rfl) (pe_lst (pa_cons (pv 1) pa_nil)))
      (pss_cons (ps_while PassesOwn.never (pt_truth (pv 4) (by intro _; rfl)) (pss_cons (ps_set (i := 5) sc_reached.nd rfl (Or.inl rfl) (pe_bm0 PySem.F.plainAttrs_list PySem.F.slot_list_pop PySem.F.type_list_pop mt_pop (pv 4)))
      (pss_one (ps_for PassesOwn.never rfl (pi_list (pe_ix ix_list (pv 0) (pv 5) (fun _ _ => rfl))) (pg_name (i := 6) sc_reached.nd rfl (Or.inl rfl))
        (pss_one (ps_if (PW.pt (pw_and (pt_cmpR op_ne (pv 6) (pv 2) (nomark _)) (pw_and1 (pt_not (pt_val (pe_ix ix_list (pv 3) (pv 6) (fun _ _ => rfl))))))) (pss_cons (ps_asg pe_bl (pg_sub (pv 3) (pv 6) set_list))
      (pss_one (ps_expr (pe_bm PySem.F.plainAttrs_list PySem.F.slot_list_append PySem.F.type_list_append mt_append (pv 4) (pa_cons (pv 6) pa_nil))))) pss_nil))))))
      (pss_one (ps_ret (pv 3))))))), fun Q kq => ?_⟩
  replace kq : ∀ v H', Ex H H' → (∃ p, v = V.ref p ∧ H' p = some (.lst ((seenB adj.length fin shut).map V.bl))) → Q v H' := by rw [← hfin]; exact kq
  -- seen = [False ..]
  apply q_asgF
  · refine ef_lc (R := isBo) (fun _ _ _ _ _ h => h) (fun _ _ _ _ _ _ _ h => h) vs.length (by rw [iN.1]; omega) (YAt vs) (fun i => List.replicate i false) rfl (fun i _ => by simp) ?_ ?_
    · exact fun H0 e0 Rr hR => ⟨.ref N, rfl, N, rfl, ⟨vs, ex_l e0 hN⟩, hR _ _ H0 walk_list (Ex.refl H0) fun H' e' => ex_l (e0.trans e') hN⟩
    · rintro i y H1 H2 e1 hi ⟨rfl, hy⟩ Q' hQ
      refine hQ _ H2 (Ex.refl H2) rfl (.inl ⟨false, fun H3 e3 Q q => q H3 (Ex.refl H3), er_ev ev_c (fun _ _ => rfl), ?_⟩)
      rw [List.replicate_succ']
  · rintro sn H1 hsn e1 ⟨us, hus, ius⟩
    have hus' := its_bo ius
    subst hus'
    rw [iN.1] at hus
    -- seen[bg] = True
    refine q_setL (v := .bl true) (j := bg) hus ?_ ?_ ?_ (by simp; exact hst) ?_
    · walk_at "ev"
    · walk_at "ev"
    · walk_at "ev"
    · intro H2 e2
      -- waiting = [bg]
      refine q_asgL (xs := [.int bg]) (el_lst ?_ (by simp)) ?_
      · walk_at "ev"
      · intro wt H3 hwt e3 hw3
        have f0 : firstOf adj.length shut = firstOf adj.length shut := rfl
        have sz0 : (firstOf adj.length shut).size = adj.length := by cases shut <;> simp [firstOf, GlaPlan.noneSeen]
        have nsn : sn ≠ wt := by
          rintro rfl
          rw [upd_same] at hwt; cases hwt
        have ex2 : Ex H (upd H2 sn (.lst (((List.replicate adj.length false).map V.bl).set bg (.bl true)))) := Ex.mut (e1.trans e2) hsn
        have ns0 : ¬ Geo.Seen (firstOf adj.length shut) bg := by
          intro h
          cases shut with
          | none => exact Geo.noneSeen_seen h
          | some k =>
            have hk := hshn k rfl
            rcases (seen_set (by simp [GlaPlan.noneSeen]; exact hk)).1 h with h | h
            · exact hsh (by rw [h])
            · exact Geo.noneSeen_seen h
        have un0 : unseen (firstOf adj.length shut) ≤ adj.length := by
          have := List.count_le_length (a := false) (l := (firstOf adj.length shut).toList)
          rw [unseen]
          have e : (firstOf adj.length shut).toList.length = adj.length := by rw [Array.length_toList]; exact sz0
          omega
        have go0 : Go adj.length shut (adj.length + 1) ([bg], (firstOf adj.length shut).setIfInBounds bg true) := by
          have := unseen_set (t := bg) (by rw [sz0]; exact hst) ns0
          refine ⟨by simp [sz0], fun k hk => (seen_set (by rw [sz0]; exact hst)).2 (.inr ?_), by simp [hst], by simp; omega⟩
          subst hk
          exact (seen_set (by simp [GlaPlan.noneSeen]; exact hshn k rfl)).2 (.inl rfl)
        have sv0 : (((List.replicate adj.length false).map V.bl).set bg (.bl true)) = (seenB adj.length ((firstOf adj.length shut).setIfInBounds bg true) shut).map V.bl := by
          rw [seenB_set hst sz0 hsh, List.map_set]
          congr 1
          congr 1
          refine List.ext_getElem? fun j => ?_
          by_cases hj : j < adj.length
          · rw [seenB_get hj, List.getElem?_replicate, if_pos hj]
            congr 1
            cases shut with
            | none =>
              have : ¬ (firstOf adj.length none)[j]? = some true := fun h => Geo.noneSeen_seen h
              simp [this]
            | some k =>
              by_cases e : k = j
              · subst e; simp
              · have : ¬ (firstOf adj.length (some k))[j]? = some true := fun h => by
                  rcases (seen_set (by simp [GlaPlan.noneSeen]; exact hshn k rfl)).1 h with h | h
                  · exact e h.symm
                  · exact Geo.noneSeen_seen h
                simp [this]
          · rw [List.getElem?_eq_none (by simp; omega), List.getElem?_eq_none (by rw [seenB_len]; omega)]
        -- while waiting
        refine q_while (fun m σ H' => ∃ (y z : Option V) (st : List Nat × Array Bool), σ = [some (.ref N), some (.int bg), some (opV shut), some (.ref sn), some (.ref wt), y, z, none] ∧ Ex H H' ∧
          H' sn = some (.lst ((seenB adj.length st.2 shut).map V.bl)) ∧ H' wt = some (.lst (st.1.reverse.map fun (n : Nat) => V.int (n : Int))) ∧ Go adj.length shut m st ∧ m ≤ adj.length + 1 ∧ GlaPlan.spread adj.toArray m st.1 st.2 = fin) (adj.length + 1) ?_ ?_
        · refine ⟨none, none, ([bg], (firstOf adj.length shut).setIfInBounds bg true), rfl, ex2.trans e3, ?_, hw3, go0, Nat.le_refl _, hfin⟩
          rw [← sv0]; exact e3 _ _ upd_same
        · rintro m σ' H4 ⟨y, z, ⟨todo, sv⟩, rfl, e4, hs4, hw4, go, hml, hsp⟩
          refine ⟨!(todo.reverse.map fun (n : Nat) => V.int (n : Int)).isEmpty, fun H5 e5 Q' q' => ⟨.ref wt, rfl, _, .inl ⟨_, sq_of (e5 _ _ hw4), rfl⟩, q' H5 (Ex.refl H5)⟩, ?_, ?_⟩
          · intro hb H5 e5
            match todo, hb, go, hsp, hw4 with
            | k :: r, hb, go, hsp, hw4 =>
            have hm : 1 ≤ m := by have := go.le; simp at this; omega
            obtain ⟨m', rfl⟩ : ∃ m', m = m' + 1 := ⟨m - 1, by omega⟩
            rw [Geo.spread_succ] at hsp
            have hk := go.td k (by simp)
            have go' : Go adj.length shut m' (r, sv) := ⟨go.sz, go.sh, fun j hj => go.td j (by simp [hj]), by have := go.le; simp at this; simp; omega⟩
            have hw5 := e5 _ _ hw4
            rw [List.reverse_cons, List.map_append] at hw5
            refine ⟨fun σ2 H2 => ∃ m'', m'' < m' + 1 ∧ ∃ (y z : Option V) (st : List Nat × Array Bool), σ2 = [some (.ref N), some (.int bg), some (opV shut), some (.ref sn), some (.ref wt), y, z, none] ∧ Ex H H2 ∧
              H2 sn = some (.lst ((seenB adj.length st.2 shut).map V.bl)) ∧ H2 wt = some (.lst (st.1.reverse.map fun (n : Nat) => V.int (n : Int))) ∧ Go adj.length shut m'' st ∧ m'' ≤ adj.length + 1 ∧ GlaPlan.spread adj.toArray m'' st.1 st.2 = fin, fun σ2 H2 h => h, ?_⟩
            -- here = waiting.pop()
            apply q_asgX
            refine ⟨.ref wt, rfl, .inl ⟨rfl, _, sq_of hw5⟩, wt, _, .int k, rfl, rfl, hw5, by simp, ?_⟩
            have exw : H wt = none := by
              cases q : H wt with
              | none => rfl
              | some o => rw [ex2 _ _ q] at hwt; cases hwt
            have e6 : Ex H (upd H5 wt (.lst (List.dropLast (r.reverse.map (fun (n : Nat) => V.int (n : Int)) ++ [k].map fun (n : Nat) => V.int (n : Int))))) := Ex.mut (e4.trans e5) exw
            have hs6 : (upd H5 wt (.lst (List.dropLast (r.reverse.map (fun (n : Nat) => V.int (n : Int)) ++ [k].map fun (n : Nat) => V.int (n : Int))))) sn = some (.lst ((seenB adj.length sv shut).map V.bl)) := by
              rw [upd_ne nsn]; exact e5 _ _ hs4
            have hw6 : (upd H5 wt (.lst (List.dropLast (r.reverse.map (fun (n : Nat) => V.int (n : Int)) ++ [k].map fun (n : Nat) => V.int (n : Int))))) wt = some (.lst (r.reverse.map fun (n : Nat) => V.int (n : Int))) := by
              rw [upd_same]; simp
            generalize (upd H5 wt (.lst (List.dropLast (r.reverse.map (fun (n : Nat) => V.int (n : Int)) ++ [k].map fun (n : Nat) => V.int (n : Int))))) = H6 at *
            obtain ⟨u, hu, b, ws, rfl, hb0, ib⟩ := iN.at hk
            have hb' := ex_l e6 hb0
            have hN6 := ex_l e6 hN
            have hlen : ws = (adj[k]).map fun (n : Nat) => V.int (n : Int) := by
              refine List.ext_getElem? fun i => ?_
              rw [List.getElem?_map]
              cases e : adj[k][i]? with
              | none =>
                rw [List.getElem?_eq_none_iff] at e
                rw [List.getElem?_eq_none (by rw [ib.1]; exact e)]; rfl
              | some t =>
                obtain ⟨v, h1, h2⟩ := ib.2 i t e
                rw [h1, h2]; rfl
            have hgd : adj.toArray.getD k [] = adj[k] := by
              rw [Array.getD_eq_getD_getElem?]; simp [hk]
            rw [hgd] at hsp
            -- for there in neighbours[here]
            apply s_forLn (a := b) (xs := ws) _ hb' (fun i σ2 H2 => ∃ (z : Option V), σ2 = [some (.ref N), some (.int bg), some (opV shut), some (.ref sn), some (.ref wt), some (.int k), z, none] ∧ Ex H H2 ∧ SqL K H2 b ws ∧
              H2 sn = some (.lst ((seenB adj.length (push (adj[k].take i) (r, sv)).2 shut).map V.bl)) ∧ H2 wt = some (.lst ((push (adj[k].take i) (r, sv)).1.reverse.map fun (n : Nat) => V.int (n : Int))) ∧ Go adj.length shut m' (push (adj[k].take i) (r, sv)))
            · intro H7 e7
              exact ⟨_, rfl, e6.trans e7, ex_l e7 hb', e7 _ _ hs6, e7 _ _ hw6, go'⟩
            · rintro i σ2 H2 _ ⟨_, _, _, h, _⟩; exact h
            · rintro i v σ2 H7 hv ⟨z, rfl, e7, hb7, hs7, hw7, go7⟩
              rw [hlen, List.getElem?_map] at hv
              cases ht : adj[k][i]? with
              | none => rw [ht] at hv; cases hv
              | some t =>
              rw [ht] at hv
              obtain rfl := Option.some.inj hv
              have htn : t < adj.length := ga _ (List.getElem_mem _) t (List.mem_of_getElem? ht)
              have et : adj[k].take (i + 1) = adj[k].take i ++ [t] := by rw [List.take_add_one, ht]; rfl
              rw [et, push_snoc]
              generalize push (adj[k].take i) (r, sv) = st at *
              have hget : st.2.getD t true = true ↔ Geo.Seen st.2 t := by
                rw [getD_true, go7.sz]; constructor
                · rintro (h | h)
                  · exact h
                  · omega
                · exact .inl
              apply s_when (b := !decide (st.2[t]? = some true))
              · refine et_is (a := decide (shut ≠ some t) && !(decide (st.2[t]? = some true) && decide (shut ≠ some t))) (et_and ?_ ?_) ?_
                · rw [← opV_ne]
                  apply et_test
                  exact ev_ne (ev_var rfl) (ev_var rfl) (scal_op _ _)
                · intro _
                  have hat : atI ((seenB adj.length st.2 shut).map V.bl) (t : Int) = some (.bl (decide (st.2[t]? = some true) && decide (shut ≠ some t))) := atI_nat (by rw [List.getElem?_map, seenB_get htn]; rfl)
                  have hs7' := sq_of (K := K) hs7
                  walk_at "ev"
                · by_cases hsd : shut = some t
                  · have := go7.sh t hsd
                    rw [Geo.Seen] at this
                    simp [hsd, this]
                  · simp [hsd]
              · intro hb H8 e8
                have nS : ¬ Geo.Seen st.2 t := by simpa [Geo.Seen] using hb
                have nsh : shut ≠ some t := fun h => nS (go7.sh t h)
                rw [if_neg (fun h => nS (hget.1 h))]
                refine q_setL (v := .bl true) (j := t) (e8 _ _ hs7) ?_ ?_ ?_ (by simp [seenB_len]; exact htn) ?_
                · walk_at "ev"
                · walk_at "ev"
                · walk_at "ev"
                · intro H9 e9
                  have exs : H sn = none := hsn
                  have hw9 : (upd H9 sn (.lst (((seenB adj.length st.2 shut).map V.bl).set t (.bl true)))) wt = some (.lst (st.1.reverse.map fun (n : Nat) => V.int (n : Int))) := by
                    rw [upd_ne (Ne.symm nsn)]; exact e9 _ _ (e8 _ _ hw7)
                  have e9' : Ex H (upd H9 sn (.lst (((seenB adj.length st.2 shut).map V.bl).set t (.bl true)))) := Ex.mut (e7.trans (e8.trans e9)) exs
                  refine s_app (v := .int (t : Int)) hw9 ?_ ?_ ?_ ?_
                  · walk_at "ev"
                  · walk_at "ev"
                  · rw [List.length_map, List.length_reverse]
                    have := go7.le
                    omega
                  · intro H10 e10
                    refine ⟨_, rfl, Ex.mut (e9'.trans e10) exw, ?_, ?_, ?_, go7.push1 htn nS⟩
                    · exact ex_l (Ex.mut (e9'.trans e10) exw) hb0
                    · rw [upd_ne nsn]
                      refine (e10 _ _ upd_same).trans ?_
                      rw [seenB_set htn go7.sz nsh, List.map_set]
                    · rw [upd_same]; simp
              · intro hb H8 e8
                have yS : Geo.Seen st.2 t := by simpa [Geo.Seen] using hb
                rw [if_pos (hget.2 yS)]
                exact ⟨_, rfl, e7.trans e8, ex_l e8 hb7, e8 _ _ hs7, e8 _ _ hw7, go7⟩
            · rintro σ2 H7 ⟨z, rfl, e7, hb7, hs7, hw7, go7⟩
              rw [ib.1, List.take_length] at hs7 hw7 go7
              exact ⟨m', by omega, _, _, _, rfl, e7, hs7, hw7, go7, by omega, hsp⟩
            · walk_at "ev"
          · intro hb H5 e5
            have ht : todo = [] := by simpa using hb
            subst ht
            have hfin2 : sv = fin := by
              cases m with
              | zero => exact hsp
              | succ m => exact hsp
            apply s_ret
            · exact ev_var rfl
            · intro H6 e6
              refine kq _ H6 ((e4.trans e5).trans e6) ⟨sn, rfl, ?_⟩
              rw [← hfin2]
              exact e6 _ _ (e5 _ _ hs4)
end
end Hl
end PHl8

section PHl9
set_option Elab.async false
set_option linter.all false
set_option maxRecDepth 100000
set_option maxHeartbeats 2000000
local macro_rules | `(tactic| walk_at "ev") => `(tactic| (first
  | exact Evl.ev_c
  | exact Evl.ev_var rfl
  | (apply Hl.ev_I0 <;> walk_at "ev")
  | (apply Hl.ev_I <;> walk_at "ev")
  | (apply Hl.ev_ixT <;> walk_at "ev")
  | (apply Hl.ev_ixL <;> walk_at "ev")
  | exact Evl.ea_nil
  | (apply Evl.ea_cons <;> walk_at "ev")
  | (apply Hl.ev_callV <;> first | assumption | walk_at "ev")
  | (apply Hl.ev_eq <;> walk_at "ev")
  | (apply Hl.ev_ne <;> walk_at "ev")
  | (apply Hl.ev_fld <;> first | assumption | walk_at "ev")
  | (apply Hl.ev_lenL <;> first | assumption | walk_at "ev")
  | (apply Hl.ev_chain <;> first | (refine fun (_ : _ = _) => ?_; walk_at "ev") | walk_at "ev")
  | (apply Evl.ev_orV <;> first | (refine fun (_ : _ = _) => ?_; walk_at "ev") | walk_at "ev")
  | (apply Evl.ev_andV <;> first | (refine fun (_ : _ = _) => ?_; walk_at "ev") | walk_at "ev")
  | (apply Evl.ev_notV <;> walk_at "ev")
  | (apply Evl.et_test <;> walk_at "ev")
  | (apply Evl.et_B <;> walk_at "ev")
  | (apply Evl.et_not <;> walk_at "ev")
  | (apply Evl.et_and <;> first | (refine fun (_ : _ = _) => ?_; walk_at "ev") | walk_at "ev")
  | (apply Evl.et_or <;> first | (refine fun (_ : _ = _) => ?_; walk_at "ev") | walk_at "ev")
  | assumption
  | (exact Evl.st_of (by assumption))
  | exact rfl
  | skip))

namespace Hl
open PySem PySem.Spec PyProof.Rows L2 Evl
open GlaPlan (Pt Plan)
open Geo (push getD_true seen_set seen_lt)
section
variable {P : Program} {w : World} {K : PySem.W.Frag} {mg : Str → Option Value} {base : Heap} {C : Addr}
theorem adj_len (S : Plan) : (adjOf S).length = S.pts.length := by simp [adjOf]
theorem near_in {S : Plan} (g : GN S) {v j : Nat} (h : j ∈ S.near v) : j < S.pts.length := by
  rw [Plan.near, List.mem_filterMap] at h
  obtain ⟨l, hl, e⟩ := h
  have := g.inp l hl
  by_cases h1 : l.1 = v
  · rw [if_pos h1] at e
    obtain rfl := Option.some.inj e; exact this.2
  · rw [if_neg h1] at e
    by_cases h2 : l.2 = v
    · rw [if_pos h2] at e
      obtain rfl := Option.some.inj e; exact this.1
    · rw [if_neg h2] at e; cases e
theorem ga_of {S : Plan} (g : GN S) : GA (adjOf S) := by
  refine ⟨fun l hl j hj => ?_, by rw [adj_len]; exact g.np⟩
  obtain ⟨v, _, rfl⟩ := List.mem_map.1 hl
  rw [adj_len]; exact near_in g hj
/-! ### parts_others -/
def Apo (K : PySem.W.Frag) : List V → Hp → V → Prop := fun vs H v => ∃ (x : V) (S : Plan) (i : Nat), vs = [x, .int i] ∧ isG K (adjOf S) x H ∧ GN S ∧ 2 ≤ S.pts.length ∧ i < S.pts.length ∧ v = .bl (GlaPlan.cuts S.nears S.pts.length i)
theorem Apo.mono : Mono (Apo K) := fun vs H H' v e ⟨x, S, i, h, h1, h2⟩ => ⟨x, S, i, h, h1.mono e, h2⟩
theorem cuts_eq {S : Plan} {i : Nat} (hi : i < S.pts.length) (h2 : 2 ≤ S.pts.length) : ((resB (adjOf S) (if i = 0 then 1 else 0) (some i)).count true : Int) < (S.pts.length : Int) - 1 ↔ GlaPlan.cuts S.nears S.pts.length i = true := by
  have hsz : (GlaPlan.seenFrom S.nears S.pts.length (if i = 0 then 1 else 0) ((GlaPlan.noneSeen S.pts.length).setIfInBounds i true)).size = S.pts.length := by
    rw [GlaPlan.seenFrom, Geo.spread_size]; simp [GlaPlan.noneSeen]
  have e : resB (adjOf S) (if i = 0 then 1 else 0) (some i) = seenB S.pts.length (GlaPlan.seenFrom S.nears S.pts.length (if i = 0 then 1 else 0) ((GlaPlan.noneSeen S.pts.length).setIfInBounds i true)) (some i) := by
    rw [resB, adj_len]; rfl
  rw [e, GlaPlan.cuts]
  have hseen : Geo.Seen (GlaPlan.seenFrom S.nears S.pts.length (if i = 0 then 1 else 0) ((GlaPlan.noneSeen S.pts.length).setIfInBounds i true)) i := by
    have keep : ∀ (n : Nat) (todo : List Nat) (seen : Array Bool) (j : Nat), Geo.Seen seen j → Geo.Seen (GlaPlan.spread S.nears n todo seen) j := by
      have kp : ∀ (l : List Nat) (a : List Nat × Array Bool) (j : Nat), Geo.Seen a.2 j → Geo.Seen (push l a).2 j := by
        intro l
        induction l with
        | nil => intro a j h; exact h
        | cons t l ih =>
          intro a j h
          rw [Geo.push_cons]
          refine ih _ j ?_
          by_cases q : a.2.getD t true = true
          · rw [if_pos q]; exact h
          · rw [if_neg q]
            have ht : t < a.2.size := by
              refine Classical.byContradiction fun hh => q (getD_true.2 (.inr (by omega)))
            exact (seen_set ht).2 (.inr h)
      intro n
      induction n with
      | zero => intro todo seen j h; exact h
      | succ n ih =>
        intro todo seen j h
        cases todo with
        | nil => exact h
        | cons k r => rw [Geo.spread_succ]; exact ih _ _ j (kp _ _ j h)
    rw [GlaPlan.seenFrom]
    refine keep _ _ _ i ((seen_set ?_).2 (.inr ((seen_set (by simp [GlaPlan.noneSeen]; exact hi)).2 (.inl rfl))))
    simp [GlaPlan.noneSeen]
    split <;> omega
  generalize hsv : GlaPlan.seenFrom S.nears S.pts.length (if i = 0 then 1 else 0) ((GlaPlan.noneSeen S.pts.length).setIfInBounds i true) = sv at *
  have hl := seenB_len S.pts.length sv (some i)
  -- as many true as are seen, less one
  have cnt : (seenB S.pts.length sv (some i)).count true + (seenB S.pts.length sv (some i)).count false = S.pts.length := by
    have : ∀ l : List Bool, l.count true + l.count false = l.length := by
      intro l
      induction l with
      | nil => rfl
      | cons b r ih => rw [List.count_cons, List.count_cons, List.length_cons]; cases b <;> simp <;> omega
    rw [this, hl]
  have fi : (seenB S.pts.length sv (some i))[i]? = some false := by rw [seenB_get hi]; simp
  have one := count_set _ _ fi
  rw [Array.contains_iff_mem]
  constructor
  · intro h
    have pos : 0 < ((seenB S.pts.length sv (some i)).set i true).count false := by omega
    have hm := List.count_pos_iff.1 pos
    obtain ⟨j, hj⟩ := List.mem_iff_getElem?.1 hm
    rw [List.getElem?_set] at hj
    by_cases eij : i = j
    · subst eij; rw [if_pos rfl, hl, if_pos hi] at hj; cases hj
    · rw [if_neg eij] at hj
      have hjn : j < S.pts.length := by rw [← hl]; exact (List.getElem?_eq_some_iff.1 hj).1
      rw [seenB_get hjn] at hj
      have hns : ¬ sv[j]? = some true := by
        intro q
        rw [q] at hj
        simp at hj
        exact eij hj
      have hjs : j < sv.size := by rw [hsz]; exact hjn
      rw [Array.getElem?_eq_getElem hjs] at hns
      have : sv[j] = false := by
        cases q : sv[j]
        · rfl
        · rw [q] at hns; exact absurd rfl hns
      rw [← this]; exact Array.getElem_mem _
  · intro h
    obtain ⟨j, hj, hf⟩ := Array.getElem_of_mem h
    rw [hsz] at hj
    have nij : i ≠ j := by
      rintro rfl
      rw [Geo.Seen, Array.getElem?_eq_getElem (by omega)] at hseen
      rw [hf] at hseen; cases hseen
    have : ((seenB S.pts.length sv (some i)).set i true)[j]? = some false := by
      rw [List.getElem?_set, if_neg nij, seenB_get hj]
      have : ¬ sv[j]? = some true := by rw [Array.getElem?_eq_getElem (by omega), hf]; simp
      simp [this]
    have pos : 0 < ((seenB S.pts.length sv (some i)).set i true).count false := List.count_pos_iff.2 (List.mem_of_getElem? this)
    omega
abbrev s_parts_others : Stmt := topS 49
abbrev N_parts_others : List Str := ["neighbours", "point", "start"]
theorem sc_parts_others : FnScope N_parts_others ["neighbours", "point"] (defScope s_parts_others) := ⟨rfl, rfl, rfl, by decide +kernel, rfl, by decide +kernel, by decide +kernel⟩
theorem k_parts_others (T : Txt K mg) (F : Dfn K mg "parts_others" s_parts_others ["neighbours", "point"]) (c_reached : Cal P w K mg base 1 "reached" (spR (Arch K))) : Cal P w K mg base 2 "parts_others" (spV (Apo K)) := by
  refine mk_V F sc_parts_others (fun vs H v h => by obtain ⟨_, _, _, rfl, _⟩ := h; rfl) (fun f cdv A' outer s H vs E v hr a => ?_)
  obtain ⟨x, S, i, rfl, ix, gn, h2, hi, rfl⟩ := a
  refine ⟨_, (pss_cons (ps_set (i := 2) sc_parts_others.nd rfl (Or.inl rfl) (pe_ifExp (pt_cmpR op_eq (pv 1) pe_int (nomark _)) pe_int pe_int))
      (pss_one (ps_ret (pe_cmpR op_lt (pe_bm PySem.F.plainAttrs_list PySem.F.slot_list_count PySem.F.type_list_count mt_countB (pe_c c_reached hr (by decide) (by rfl) (pa_cons (pv 0) (pa_cons (pv 2) (pa_cons (pv 1) pa_nil)))) (pa_cons pe_bl pa_nil)) (pe_op op_sub (pe_callB call_len_seq (by rfl) T.len PySem.boot_len (pa_cons (pv 0) pa_nil)) pe_int) (nomark _))))), fun Q kq => ?_⟩
  apply q_asg (v := .int ((if i = 0 then 1 else 0 : Nat) : Int))
  · apply ev_if
    · walk_at "ev"
    · intro hb
      have hb' : i = 0 := by simp at hb; omega
      rw [if_pos hb']; exact ev_c
    · intro hb
      have hb' : ¬ i = 0 := by simp at hb; omega
      rw [if_neg hb']; exact ev_c
  · intro H1 e1
    have ix1 := ix.mono e1
    have a1 : Arch K [x, .int ((if i = 0 then 1 else 0 : Nat) : Int), .int (i : Int)] H1 (fun v H' => ∃ p, v = .ref p ∧ H' p = some (.lst ((resB (adjOf S) (if i = 0 then 1 else 0) (some i)).map V.bl))) :=
      ⟨x, adjOf S, if i = 0 then 1 else 0, some i, rfl, ix1, ga_of gn, by rw [adj_len]; split <;> omega, by split <;> simp <;> omega, fun k hk => by cases hk; rw [adj_len]; exact hi, rfl⟩
    have er := er_callR (σ := [some x, some (.int (i : Int)), some (.int ((if i = 0 then 1 else 0 : Nat) : Int))]) Arch.mono (ea_cons (ev_var (i := 0) rfl) (ea_cons (ev_var (i := 2) rfl) (ea_cons (ev_var (i := 1) rfl) ea_nil))) a1
    obtain ⟨N, vs, rfl, hN, iN⟩ := ix1
    refine er H1 (Ex.refl H1) _ ?_
    rintro v H2 e2 ⟨p, rfl, hp⟩
    refine ⟨.inl ⟨rfl, _, sq_of hp⟩, ?_⟩
    refine ⟨p, _, true, rfl, rfl, sq_of hp, ?_⟩
    have hN2 := ex_l e2 hN
    refine ev_I0 (σ := [some (.ref N), some (.int (i : Int)), some (.int ((if i = 0 then 1 else 0 : Nat) : Int))]) (ta := tCB (rLenS K) (tCons (tVar 0) tNil)) (tb := tC (.int 1)) (g := fun i j => .int (i - j)) (ev_lenL (ev_var rfl) hN2) ev_c H2 (Ex.refl H2) _ ?_
    intro H3 e3
    refine ⟨_, _, rfl, rfl, ?_⟩
    have e : decide (((resB (adjOf S) (if i = 0 then 1 else 0) (some i)).count true : Int) < (vs.length : Int) - 1) = GlaPlan.cuts S.nears S.pts.length i := by
      rw [Bool.eq_iff_iff, decide_eq_true_iff, ← cuts_eq hi h2, iN.1, adj_len]
    dsimp only
    rw [e]
    exact kq H3 ((e1.trans e2).trans e3)
/-! ### rules 8, 9, 10 -/
def fLoose (S : Plan) : Option Nat := ((List.range S.pts.length).find? fun (i : Nat) => decide ((S.near i).length < 2)).map GlaPlan.ptPlace
def fIsland (S : Plan) : Option Nat := ((List.range S.pts.length).find? fun (i : Nat) => !((GlaPlan.seenFrom S.nears S.pts.length 0 (GlaPlan.noneSeen S.pts.length)).getD i false)).map GlaPlan.ptPlace
def fHinge (S : Plan) : Option Nat := ((List.range S.pts.length).find? (GlaPlan.cuts S.nears S.pts.length)).map GlaPlan.ptPlace
theorem find_drop {p : Nat → Bool} {n i : Nat} (hi : i < n) : ((List.range n).drop i).find? p = if p i = true then some i else ((List.range n).drop (i + 1)).find? p := by
  rw [List.drop_eq_getElem_cons (by simpa using hi)]
  simp only [List.getElem_range]
  by_cases h : p i = true
  · rw [List.find?_cons_of_pos h, if_pos h]
  · rw [List.find?_cons_of_neg h, if_neg h]
theorem find_end {p : Nat → Bool} {n : Nat} : ((List.range n).drop n).find? p = none := by
  have : (List.range n).drop n = [] := by simp
  rw [this]; rfl
/-- for i, x in enumerate of a call's new list -/
theorem q_enumR {α : Type} {R : α → V → Hp → Prop} (mR : MonoR R) {te : TE} {σ : L2.St} {H : Hp} {D : Ends} {tu tz : TS} {xs : List α} (h : EvR te σ H (isL K R xs)) {j1 j2 : Nat} (I : Nat → L2.St → Prop) (h0 : I 0 σ)
    (hs : ∀ H1, Ex H H1 → ∀ i x v σ' H', xs[i]? = some x → Ex H1 H' → R x v H' → I i σ' → tu { D with nx := fun σ2 H2 => I (i + 1) σ2 ∧ Ex H1 H2, ct := fun σ2 H2 => I (i + 1) σ2 ∧ Ex H1 H2, bk := tz D } ((σ'.set j1 (some (.int (i : Nat)))).set j2 (some v)) H')
    (hd : ∀ σ' H', I xs.length σ' → Ex H H' → tz D σ' H') : tSeq (tFor (iEnum K (tCons te tNil)) (gTup K 2 (gCons (gName j1) (gCons (gName j2) gNil))) tu) tz D σ H :=
  h H (Ex.refl H) _ fun v H1 e1 ⟨a, us, hv, hq, hI⟩ => by
    subst hv
    refine ⟨a, us, rfl, hq, for_it walk_enum (fun i σ' H' => I i σ' ∧ Ex H1 H') ⟨h0, Ex.refl H1⟩ (fun i σ' H' _ p => ex_l p.2 hq) (fun i y σ' H2 H3 hi p hy => ?_) (fun σ' H' p => hd σ' H' (by rw [← hI.1]; exact p.1) (e1.trans p.2))⟩
    obtain ⟨T, x, z, rfl, hT, rfl, hx, hz⟩ := hy
    obtain rfl := Option.some.inj hx
    obtain ⟨m, hm, r⟩ := hI.get hz
    have e3 : Ex H2 (upd H2 T (.tup [.int (i : Nat), z])) := Ex.new hT
    exact g_pair upd_same (hs H1 e1 i m z σ' _ hm (p.2.trans e3) (mR _ _ _ _ (p.2.trans e3) r) p.1)
def Gd (S : Plan) : Prop := GN S ∧ 2 ≤ S.pts.length
abbrev s_loose_end_fault : Stmt := topS 71
abbrev N_loose_end_fault : List Str := ["drawing", "i", "others"]
theorem sc_loose_end_fault : FnScope N_loose_end_fault ["drawing"] (defScope s_loose_end_fault) := ⟨rfl, rfl, rfl, by decide +kernel, rfl, by decide +kernel, by decide +kernel⟩
theorem k_loose_end_fault (T : Txt K mg) (F : Dfn K mg "loose_end_fault" s_loose_end_fault ["drawing"]) (c_point_place : Cal P w K mg base 1 "point_place" (spV (Anat GlaPlan.ptPlace))) (c_neighbours_of : Cal P w K mg base 1 "neighbours_of" (spR (Anb K C))) :
    Cal P w K mg base 2 "loose_end_fault" (spV (Ado K C Gd fun S => opV (fLoose S))) := by
  refine mk_V F sc_loose_end_fault (fun vs H v h => h.len) (fun f cdv A' outer s H vs E v hr a => ?_)
  obtain ⟨x, S, rfl, id, ⟨gn, _⟩, rfl⟩ := a
  refine ⟨_, (pss_cons (ps_for PassesOwn.never rfl (pi_enum (by rfl) T.enumerate (pa_cons (pe_c c_neighbours_of hr (by decide) (by rfl) (pa_cons (pv 0) pa_nil)) pa_nil)) (pg_tup (by rfl) (pgs_cons (pg_name (i := 1) sc_loose_end_fault.nd rfl (Or.inl rfl)) (pgs_cons (pg_name (i := 2) sc_loose_end_fault.nd rfl (Or.inl rfl)) pgs_nil)))
        (pss_one (ps_if (pt_cmpR op_lt (pe_callB call_len_seq (by rfl) T.len PySem.boot_len (pa_cons (pv 2) pa_nil)) pe_int (nomark _)) (pss_one (ps_ret (pe_c c_point_place hr (by decide) (by rfl) (pa_cons (pv 1) pa_nil)))) pss_nil)))
      (pss_one (ps_ret pe_non))), fun Q kq => ?_⟩
  replace kq : ∀ H', Ex H H' → Q (opV (fLoose S)) H' := kq
  rw [fLoose] at kq
  have m1 : Mono (Anat GlaPlan.ptPlace) := Anat.mono
  apply q_enumR (R := isL K isI) monoLI (er_callR Anb.mono (ea_cons (ev_var rfl) ea_nil) ⟨x, S, rfl, id, gn, rfl⟩) (fun i σ' => ∃ y z, σ' = [some x, y, z] ∧ (List.range S.pts.length).find? (fun (i : Nat) => decide ((S.near i).length < 2)) = ((List.range S.pts.length).drop i).find? (fun (i : Nat) => decide ((S.near i).length < 2)))
  · exact ⟨none, none, rfl, rfl⟩
  · rintro H1 e1 i l v σ' H2 hx e2 ⟨b, ws, rfl, hb, ib⟩ ⟨y, z, rfl, hF⟩
    have hi : i < S.pts.length := by rw [← adj_len]; exact (List.getElem?_eq_some_iff.1 hx).1
    have el : l = S.near i := by
      rw [adjOf, List.getElem?_map, List.getElem?_range hi] at hx
      exact (Option.some.inj hx).symm
    subst el
    rw [find_drop hi] at hF
    apply s_when (b := decide ((S.near i).length < 2))
    · refine et_is (a := decide ((ws.length : Int) < 2)) ?_ ?_
      · walk_at "ev"
      · rw [ib.1, Bool.eq_iff_iff]; simp only [decide_eq_true_eq]; omega
    · intro hb2 H3 e3
      rw [if_pos hb2] at hF
      have a1 : Anat GlaPlan.ptPlace [.int i] H3 (.int (GlaPlan.ptPlace i : Nat)) := ⟨i, rfl, rfl⟩
      apply s_ret
      · walk_at "ev"
      · intro H4 e4
        have := kq H4 (((e1.trans e2).trans e3).trans e4)
        rw [hF] at this; exact this
    · intro hb2 H3 e3
      rw [hb2, if_neg Bool.false_ne_true] at hF
      exact ⟨⟨_, _, rfl, hF⟩, e2.trans e3⟩
  · rintro σ' H2 ⟨y, z, rfl, hF⟩ e2
    rw [adj_len, find_end] at hF
    rw [hF] at kq
    apply s_ret
    · exact ev_c
    · exact fun H3 e3 => kq H3 (e2.trans e3)
theorem its_bo' (bs : List Bool) (H : Hp) : Its isBo bs (bs.map V.bl) H := by
  refine ⟨by simp, fun i x hx => ⟨.bl x, ?_, rfl⟩⟩
  rw [List.getElem?_map, hx]; rfl
abbrev s_island_fault : Stmt := topS 72
abbrev N_island_fault : List Str := ["drawing", "i", "seen"]
theorem sc_island_fault : FnScope N_island_fault ["drawing"] (defScope s_island_fault) := ⟨rfl, rfl, rfl, by decide +kernel, rfl, by decide +kernel, by decide +kernel⟩
theorem k_island_fault (T : Txt K mg) (F : Dfn K mg "island_fault" s_island_fault ["drawing"]) (c_point_place : Cal P w K mg base 1 "point_place" (spV (Anat GlaPlan.ptPlace))) (c_neighbours_of : Cal P w K mg base 1 "neighbours_of" (spR (Anb K C))) (c_reached : Cal P w K mg base 1 "reached" (spR (Arch K))) :
    Cal P w K mg base 2 "island_fault" (spV (Ado K C Gd fun S => opV (fIsland S))) := by
  refine mk_V F sc_island_fault (fun vs H v h => h.len) (fun f cdv A' outer s H vs E v hr a => ?_)
  obtain ⟨x, S, rfl, id, ⟨gn, g2⟩, rfl⟩ := a
  refine ⟨_, (pss_cons (ps_for PassesOwn.never rfl (pi_enum (by rfl) T.enumerate (pa_cons (pe_c c_reached hr (by decide) (by rfl) (pa_cons (pe_c c_neighbours_of hr (by decide) (by rfl) (pa_cons (pv 0) pa_nil)) (pa_cons pe_int (pa_cons pe_non pa_nil)))) pa_nil)) (pg_tup (by rfl) (pgs_cons (pg_name (i := 1) sc_island_fault.nd rfl (Or.inl rfl)) (pgs_cons (pg_name (i := 2) sc_island_fault.nd rfl (Or.inl rfl)) pgs_nil)))
        (pss_one (ps_if (pt_not (pt_val (pv 2))) (pss_one (ps_ret (pe_c c_point_place hr (by decide) (by rfl) (pa_cons (pv 1) pa_nil)))) pss_nil)))
      (pss_one (ps_ret pe_non))), fun Q kq => ?_⟩
  replace kq : ∀ H', Ex H H' → Q (opV (fIsland S)) H' := kq
  rw [fIsland] at kq
  have m1 : Mono (Anat GlaPlan.ptPlace) := Anat.mono
  have er1 : EvR (tCall (spR (Anb K C)) [] E0 (tCons (tVar 0) tNil)) [some x, none, none] H (isG K (adjOf S)) := er_callR Anb.mono (ea_cons (ev_var rfl) ea_nil) ⟨x, S, rfl, id, gn, rfl⟩
  have er2 : EvR (tCall (spR (Arch K)) [] E0 (tCons (tCall (spR (Anb K C)) [] E0 (tCons (tVar 0) tNil)) (tCons (tC (.int 0)) (tCons (tC .non) tNil)))) [some x, none, none] H (isL K isBo (resB (adjOf S) 0 none)) := by
    intro H1 e1 Q' q'
    refine er1 H1 e1 _ fun v H2 e2 r => ?_
    refine ⟨_, ⟨v, adjOf S, 0, none, rfl, r, ga_of gn, by rw [adj_len]; omega, by simp, fun k hk => (nomatch hk), rfl⟩, ?_⟩
    rintro v' H3 e3 ⟨p, rfl, hp⟩
    exact q' _ H3 (e2.trans e3) ⟨p, _, rfl, sq_of hp, its_bo' _ _⟩
  apply q_enumR (R := isBo) (fun _ _ _ _ _ h => h) er2 (fun i σ' => ∃ y z, σ' = [some x, y, z] ∧ (List.range S.pts.length).find? (fun (i : Nat) => !((GlaPlan.seenFrom S.nears S.pts.length 0 (GlaPlan.noneSeen S.pts.length)).getD i false)) = ((List.range S.pts.length).drop i).find? (fun (i : Nat) => !((GlaPlan.seenFrom S.nears S.pts.length 0 (GlaPlan.noneSeen S.pts.length)).getD i false)))
  · exact ⟨none, none, rfl, rfl⟩
  · rintro H1 e1 i b v σ' H2 hx e2 hv ⟨y, z, rfl, hF⟩
    obtain rfl : v = .bl b := hv
    have e : resB (adjOf S) 0 none = seenB S.pts.length (GlaPlan.seenFrom S.nears S.pts.length 0 (GlaPlan.noneSeen S.pts.length)) none := by rw [resB, adj_len]; rfl
    rw [e] at hx
    have hi : i < S.pts.length := by
      have := (List.getElem?_eq_some_iff.1 hx).1
      rwa [seenB_len] at this
    rw [seenB_get hi] at hx
    have eb : b = (GlaPlan.seenFrom S.nears S.pts.length 0 (GlaPlan.noneSeen S.pts.length)).getD i false := by
      rw [← Option.some.inj hx, Array.getD_eq_getD_getElem?]
      cases (GlaPlan.seenFrom S.nears S.pts.length 0 (GlaPlan.noneSeen S.pts.length))[i]? with
      | none => simp
      | some c => cases c <;> simp
    rw [find_drop hi] at hF
    apply s_when (b := !b)
    · walk_at "ev"
    · intro hb2 H3 e3
      rw [← eb, if_pos hb2] at hF
      have a1 : Anat GlaPlan.ptPlace [.int i] H3 (.int (GlaPlan.ptPlace i : Nat)) := ⟨i, rfl, rfl⟩
      apply s_ret
      · walk_at "ev"
      · intro H4 e4
        have := kq H4 (((e1.trans e2).trans e3).trans e4)
        rw [hF] at this; exact this
    · intro hb2 H3 e3
      rw [← eb, hb2, if_neg Bool.false_ne_true] at hF
      exact ⟨⟨_, _, rfl, hF⟩, e2.trans e3⟩
  · rintro σ' H2 ⟨y, z, rfl, hF⟩ e2
    have e : (resB (adjOf S) 0 none).length = S.pts.length := by rw [resB, seenB_len, adj_len]
    rw [e, find_end] at hF
    rw [hF] at kq
    apply s_ret
    · exact ev_c
    · exact fun H3 e3 => kq H3 (e2.trans e3)
abbrev s_hinge_fault : Stmt := topS 73
abbrev N_hinge_fault : List Str := ["drawing", "neighbours", "i"]
theorem sc_hinge_fault : FnScope N_hinge_fault ["drawing"] (defScope s_hinge_fault) := ⟨rfl, rfl, rfl, by decide +kernel, rfl, by decide +kernel, by decide +kernel⟩
theorem k_hinge_fault (T : Txt K mg) (F : Dfn K mg "hinge_fault" s_hinge_fault ["drawing"]) (c_point_place : Cal P w K mg base 1 "point_place" (spV (Anat GlaPlan.ptPlace))) (c_neighbours_of : Cal P w K mg base 1 "neighbours_of" (spR (Anb K C))) (c_parts_others : Cal P w K mg base 2 "parts_others" (spV (Apo K))) :
    Cal P w K mg base 3 "hinge_fault" (spV (Ado K C Gd fun S => opV (fHinge S))) := by
  refine mk_V F sc_hinge_fault (fun vs H v h => h.len) (fun f cdv A' outer s H vs E v hr a => ?_)
  obtain ⟨x, S, rfl, id, ⟨gn, g2⟩, rfl⟩ := a
  refine ⟨_, (pss_cons (ps_set (i := 1) sc_hinge_fault.nd rfl (Or.inl rfl) (pe_c c_neighbours_of hr (by decide) (by rfl) (pa_cons (pv 0) pa_nil)))
      (pss_cons (ps_for PassesOwn.never rfl (pi_range1 (by rfl) T.range (pa_cons (pe_callB call_len_seq (by rfl) T.len PySem.boot_len (pa_cons (pv 1) pa_nil)) pa_nil)) (pg_name (i := 2) sc_hinge_fault.nd rfl (Or.inl rfl))
        (pss_one (ps_if (pt_val (pe_c c_parts_others hr (by decide) (by rfl) (pa_cons (pv 1) (pa_cons (pv 2) pa_nil)))) (pss_one (ps_ret (pe_c c_point_place hr (by decide) (by rfl) (pa_cons (pv 2) pa_nil)))) pss_nil)))
      (pss_one (ps_ret pe_non)))), fun Q kq => ?_⟩
  replace kq : ∀ H', Ex H H' → Q (opV (fHinge S)) H' := kq
  rw [fHinge] at kq
  have m1 : Mono (Anat GlaPlan.ptPlace) := Anat.mono
  have m2 : Mono (Apo K) := Apo.mono
  apply q_asgR (er_callR Anb.mono (ea_cons (ev_var rfl) ea_nil) ⟨x, S, rfl, id, gn, rfl⟩)
  intro v H1 e1 ig
  have ig0 := ig
  obtain ⟨N, vs, rfl, hN, iN⟩ := ig
  have hl : vs.length = S.pts.length := by rw [iN.1, adj_len]
  have gnp := gn.np
  apply q_forR1 (n := (vs.length : Int)) _ (by omega) (fun i σ' H' => (∃ y, σ' = [some x, some (.ref N), y] ∧ (List.range S.pts.length).find? (GlaPlan.cuts S.nears S.pts.length) = ((List.range S.pts.length).drop i).find? (GlaPlan.cuts S.nears S.pts.length)) ∧ Ex H1 H')
  · exact fun H2 e2 => ⟨⟨none, rfl, rfl⟩, e2⟩
  · rintro i σ' H2 hi ⟨⟨y, rfl, hF⟩, e2⟩
    have hi : i < S.pts.length := by omega
    rw [find_drop hi] at hF
    have a2 : Apo K [.ref N, .int i] H2 (.bl (GlaPlan.cuts S.nears S.pts.length i)) := ⟨_, S, i, rfl, ig0.mono e2, gn, g2, hi, rfl⟩
    apply s_when (b := GlaPlan.cuts S.nears S.pts.length i)
    · walk_at "ev"
    · intro hb2 H3 e3
      rw [if_pos hb2] at hF
      have a1 : Anat GlaPlan.ptPlace [.int i] H3 (.int (GlaPlan.ptPlace i : Nat)) := ⟨i, rfl, rfl⟩
      apply s_ret
      · walk_at "ev"
      · intro H4 e4
        have := kq H4 (((e1.trans e2).trans e3).trans e4)
        rw [hF] at this; exact this
    · intro hb2 H3 e3
      rw [hb2, if_neg Bool.false_ne_true] at hF
      exact ⟨⟨_, rfl, hF⟩, e2.trans e3⟩
  · rintro σ' H2 ⟨⟨y, rfl, hF⟩, e2⟩
    rw [show (vs.length : Int).toNat = S.pts.length by omega, find_end] at hF
    rw [hF] at kq
    apply s_ret
    · exact ev_c
    · exact fun H3 e3 => kq H3 ((e1.trans e2).trans e3)
  · walk_at "ev"
end
end Hl
end PHl9

section PHl10
set_option Elab.async false
set_option linter.all false
set_option maxRecDepth 100000
set_option maxHeartbeats 2000000
local macro_rules | `(tactic| walk_at "ev") => `(tactic| (first
  | exact Evl.ev_c
  | exact Evl.ev_var rfl
  | (apply Hl.ev_I0 <;> walk_at "ev")
  | (apply Hl.ev_I <;> walk_at "ev")
  | (apply Hl.ev_ixT <;> walk_at "ev")
  | (apply Hl.ev_ixL <;> walk_at "ev")
  | exact Evl.ea_nil
  | (apply Evl.ea_cons <;> walk_at "ev")
  | (apply Hl.ev_callV <;> first | assumption | walk_at "ev")
  | (apply Hl.ev_eq <;> walk_at "ev")
  | (apply Hl.ev_ne <;> walk_at "ev")
  | (apply Hl.ev_fld <;> first | assumption | walk_at "ev")
  | (apply Hl.ev_lenL <;> first | assumption | walk_at "ev")
  | (apply Hl.ev_chain <;> first | (refine fun (_ : _ = _) => ?_; walk_at "ev") | walk_at "ev")
  | (apply Evl.ev_orV <;> first | (refine fun (_ : _ = _) => ?_; walk_at "ev") | walk_at "ev")
  | (apply Evl.ev_andV <;> first | (refine fun (_ : _ = _) => ?_; walk_at "ev") | walk_at "ev")
  | (apply Evl.ev_notV <;> walk_at "ev")
  | (apply Evl.et_test <;> walk_at "ev")
  | (apply Evl.et_B <;> walk_at "ev")
  | (apply Evl.et_not <;> walk_at "ev")
  | (apply Evl.et_and <;> first | (refine fun (_ : _ = _) => ?_; walk_at "ev") | walk_at "ev")
  | (apply Evl.et_or <;> first | (refine fun (_ : _ = _) => ?_; walk_at "ev") | walk_at "ev")
  | assumption
  | (exact Evl.st_of (by assumption))
  | exact rfl
  | skip))

namespace Hl
open PySem PySem.Spec PyProof.Rows L2 Evl
open GlaPlan (Pt Plan)
section
variable {P : Program} {w : World} {K : PySem.W.Frag} {mg : Str → Option Value} {base : Heap} {C : Addr}
/-! ### the leftmost -/
def mlP (u v p q : Pt) : Bool := if (decide (GlaPlan.turn u v p < 0)) != (decide (GlaPlan.turn u v q < 0)) then decide (GlaPlan.turn u v q < 0) else decide (0 < GlaPlan.turn v q p)
theorem ev_neB {σ : L2.St} {H : Hp} {ta tb : TE} {a b : Bool} (ha : Ev ta σ H (.bl a)) (hb : Ev tb σ H (.bl b)) : EvT (tTest (tOp rNe ta tb)) σ H (a != b) := by
  refine et_is (et_test (ev_ne ha hb rfl)) ?_
  cases a <;> cases b <;> rfl
abbrev s_more_left : Stmt := topS 51
abbrev N_more_left : List Str := ["u", "v", "p", "q", "p_to_the_right", "q_to_the_right"]
theorem sc_more_left : FnScope N_more_left ["u", "v", "p", "q"] (defScope s_more_left) := ⟨rfl, rfl, rfl, by decide +kernel, rfl, by decide +kernel, by decide +kernel⟩
theorem k_more_left (F : Dfn K mg "more_left" s_more_left ["u", "v", "p", "q"]) (c_turn : Cal P w K mg base 1 "turn" (spV (A3 K fun p q r => .int (GlaPlan.turn p q r)))) :
    Cal P w K mg base 2 "more_left" (spV (A4 K fun u v p q => .bl (mlP u v p q))) := by
  refine mk_V F sc_more_left (fun vs H v h => h.len) (fun f cdv A' outer s H vs E v hr a => ?_)
  obtain ⟨x, y, z, t, u, v, p, q, rfl, iu, iv, ip, iq, rfl⟩ := a
  have m1 : Mono (A3 K fun p q r => .int (GlaPlan.turn p q r)) := A3.mono
  have a1 : A3 K (fun p q r => .int (GlaPlan.turn p q r)) [x, y, z] H (.int (GlaPlan.turn u v p)) := ⟨x, y, z, u, v, p, rfl, iu, iv, ip, rfl⟩
  refine ⟨_, (pss_cons (ps_set (i := 4) sc_more_left.nd rfl (Or.inl rfl) (pe_cmpR op_lt (pe_c c_turn hr (by decide) (by rfl) (pa_cons (pv 0) (pa_cons (pv 1) (pa_cons (pv 2) pa_nil)))) pe_int (nomark _)))
      (pss_cons (ps_set (i := 5) sc_more_left.nd rfl (Or.inl rfl) (pe_cmpR op_lt (pe_c c_turn hr (by decide) (by rfl) (pa_cons (pv 0) (pa_cons (pv 1) (pa_cons (pv 3) pa_nil)))) pe_int (nomark _)))
      (pss_cons (ps_if (pt_cmpR op_ne (pv 4) (pv 5) (nomark _)) (pss_one (ps_ret (pv 5))) pss_nil)
      (pss_one (ps_ret (pe_cmpR op_gt (pe_c c_turn hr (by decide) (by rfl) (pa_cons (pv 1) (pa_cons (pv 3) (pa_cons (pv 2) pa_nil)))) pe_int (nomark _))))))), fun Q kq => ?_⟩
  replace kq : ∀ H', Ex H H' → Q (.bl (mlP u v p q)) H' := kq
  apply q_asg
  · walk_at "ev"
  · intro H1 e1
    have a2 : A3 K (fun p q r => .int (GlaPlan.turn p q r)) [x, y, t] H1 (.int (GlaPlan.turn u v q)) := ⟨x, y, t, u, v, q, rfl, iu.mono e1, iv.mono e1, iq.mono e1, rfl⟩
    apply q_asg
    · walk_at "ev"
    · intro H2 e2
      have e02 := e1.trans e2
      have a3 : A3 K (fun p q r => .int (GlaPlan.turn p q r)) [y, t, z] H2 (.int (GlaPlan.turn v q p)) := ⟨y, t, z, v, q, p, rfl, iv.mono e02, iq.mono e02, ip.mono e02, rfl⟩
      apply q_when (b := (decide (GlaPlan.turn u v p < 0)) != (decide (GlaPlan.turn u v q < 0)))
      · exact ev_neB (ev_var rfl) (ev_var rfl)
      · intro hb H3 e3
        apply s_ret
        · exact ev_var rfl
        · intro H4 e4
          have := kq H4 ((e02.trans e3).trans e4)
          rw [mlP, if_pos hb] at this; exact this
      · intro hb H3 e3
        have a3 : A3 K (fun p q r => .int (GlaPlan.turn p q r)) [y, t, z] H3 (.int (GlaPlan.turn v q p)) := ⟨y, t, z, v, q, p, rfl, iv.mono (e02.trans e3), iq.mono (e02.trans e3), ip.mono (e02.trans e3), rfl⟩
        apply s_ret
        · walk_at "ev"
        · intro H4 e4
          have := kq H4 ((e02.trans e3).trans e4)
          rw [mlP, hb, if_neg Bool.false_ne_true] at this; exact this
def Alm (K : PySem.W.Frag) : List V → Hp → V → Prop := fun vs H v => ∃ (x y : V) (S : Plan) (u h : Nat), vs = [x, y, .int u, .int h] ∧ isL K (isPt K) S.pts x H ∧ isG K (adjOf S) y H ∧ GN S ∧ u < S.pts.length ∧ h < S.pts.length ∧ v = opV (Geo.lmost S u h none (S.near h))
theorem Alm.mono : Mono (Alm K) := fun vs H H' v e ⟨x, y, S, u, h, h0, h1, h2, h3⟩ => ⟨x, y, S, u, h, h0, h1.mono monoPt e, h2.mono e, h3⟩
theorem lmost_snoc (S : Plan) (u v : Nat) (b : Option Nat) (l : List Nat) (t : Nat) : Geo.lmost S u v b (l ++ [t]) = if t = u then Geo.lmost S u v b l else match Geo.lmost S u v b l with
    | none => some t
    | some b => if Geo.moreLeft S u v t b = true then some t else some b := by
  rw [Geo.lmost, List.foldl_append]
  unfold Geo.lmost
  generalize List.foldl _ b l = r
  cases r <;> rfl
theorem lmost_mem (S : Plan) (u v : Nat) : ∀ (l : List Nat) (b : Option Nat), ∀ k, Geo.lmost S u v b l = some k → k ∈ l ∨ b = some k
  | [], b, k, h => .inr h
  | t :: r, b, k, h => by
    rw [Geo.lmost, List.foldl_cons] at h
    rcases lmost_mem S u v r _ k h with q | q
    · exact .inl (by simp [q])
    · by_cases e : t = u
      · rw [if_pos e] at q; exact .inr q
      · rw [if_neg e] at q
        cases b with
        | none => left; simp at q; simp [q]
        | some b' =>
          simp only at q
          by_cases z : Geo.moreLeft S u v t b' = true
          · rw [if_pos z] at q; left; simp at q; simp [q]
          · rw [if_neg z] at q; exact .inr q
abbrev s_leftmost : Stmt := topS 52
abbrev N_leftmost : List Str := ["points", "neighbours", "come_from", "here", "best", "there"]
theorem sc_leftmost : FnScope N_leftmost ["points", "neighbours", "come_from", "here"] (defScope s_leftmost) := ⟨rfl, rfl, rfl, by decide +kernel, rfl, by decide +kernel, by decide +kernel⟩
theorem k_leftmost (F : Dfn K mg "leftmost" s_leftmost ["points", "neighbours", "come_from", "here"]) (c_more_left : Cal P w K mg base 2 "more_left" (spV (A4 K fun u v p q => .bl (mlP u v p q)))) :
    Cal P w K mg base 3 "leftmost" (spV (Alm K)) := by
  refine mk_V F sc_leftmost (fun vs H v h => by obtain ⟨_, _, _, _, _, rfl, _⟩ := h; rfl) (fun f cdv A' outer s H vs E v hr a => ?_)
  obtain ⟨x, y, S, u, h, rfl, ⟨lp, us, rfl, hp, ip⟩, ⟨N, ns, rfl, hN, iN⟩, gn, hu, hh, rfl⟩ := a
  have m1 : Mono (A4 K fun u v p q => .bl (mlP u v p q)) := A4.mono
  have hh' : h < (adjOf S).length := by rw [adj_len]; exact hh
  obtain ⟨w0, hw, b, ws, rfl, hb, ib⟩ := iN.at hh'
  have ea : (adjOf S)[h] = S.near h := by simp [adjOf]
  rw [ea] at ib
  obtain ⟨u1, g1, i1⟩ := ip.pt hu
  obtain ⟨u2, g2, i2⟩ := ip.pt hh
  refine ⟨_, (pss_cons (ps_set (i := 4) sc_leftmost.nd rfl (Or.inl rfl) pe_non)
      (pss_cons (ps_for PassesOwn.never rfl (pi_list (pe_ix ix_list (pv 1) (pv 3) (fun _ _ => rfl))) (pg_name (i := 5) sc_leftmost.nd rfl (Or.inl rfl))
        (pss_one (ps_if (pt_cmpR op_ne (pv 5) (pv 2) (nomark _)) (pss_one (ps_if (PW.pt (pw_or (pt_cmpR op_isN (pv 4) pe_non (nomark _)) (pw_or1 (pt_val (pe_c c_more_left hr (by decide) (by rfl) (pa_cons (pe_ix ix_list (pv 0) (pv 2) (fun _ _ => rfl)) (pa_cons (pe_ix ix_list (pv 0) (pv 3) (fun _ _ => rfl)) (pa_cons (pe_ix ix_list (pv 0) (pv 5) (fun _ _ => rfl)) (pa_cons (pe_ix ix_list (pv 0) (pv 4) (fun _ _ => rfl)) pa_nil))))))))) (pss_one (ps_set (i := 4) sc_leftmost.nd rfl (Or.inl rfl) (pv 5))) pss_nil)) pss_nil)))
      (pss_one (ps_ret (pv 4))))), fun Q kq => ?_⟩
  apply q_asg
  · exact ev_c
  · intro H1 e1
    have hN1 := ex_l e1 hN
    apply q_listS (R := isI) (a := b) (us := ws) (xs := S.near h) monoI _ (ex_l e1 hb) (ib.mono monoI e1) (fun i σ' => ∃ z, σ' = [some (.ref lp), some (.ref N), some (.int u), some (.int h), some (opV (Geo.lmost S u h none ((S.near h).take i))), z])
    · exact ⟨none, rfl⟩
    · rintro i t v σ' H2 hx e2 hv ⟨z, rfl⟩
      obtain rfl : v = .int (t : Int) := hv
      have et : (S.near h).take (i + 1) = (S.near h).take i ++ [t] := by rw [List.take_add_one, hx]; rfl
      have ht : t < S.pts.length := near_in gn (List.mem_of_getElem? hx)
      obtain ⟨u3, g3, i3⟩ := ip.pt ht
      have e02 := e1.trans e2
      have hp2 := ex_l e02 hp
      rw [et, lmost_snoc]
      apply s_when (b := !decide (t = u))
      · refine et_is (a := !decide (V.int (t : Int) = .int u)) ?_ ?_
        · walk_at "ev"
        · congr 1; rw [Bool.eq_iff_iff]; simp; omega
      · intro hb2 H3 e3
        have ntu : ¬ t = u := by simpa using hb2
        rw [if_neg ntu]
        have hp3 := ex_l (e02.trans e3) hp
        have hbest : ∀ k, Geo.lmost S u h none ((S.near h).take i) = some k → k < S.pts.length := fun k hk => by
          rcases lmost_mem S u h _ _ k hk with q | q
          · exact near_in gn (List.mem_of_mem_take q)
          · cases q
        generalize hbst : Geo.lmost S u h none ((S.near h).take i) = best at *
        cases best with
        | none =>
          apply s_when (b := true)
          · refine et_is (a := decide (V.non = V.non) || false) (et_or ?_ (fun q => by simp at q)) (by simp)
            apply et_test
            exact fun H4 e4 Q4 q4 => ⟨.non, rfl, rfl, q4 H4 (Ex.refl H4)⟩
          · intro _ H4 e4
            apply s_asg
            · exact ev_var rfl
            · exact fun H5 e5 => ⟨⟨_, rfl⟩, ((e2.trans e3).trans e4).trans e5⟩
          · intro q; cases q
        | some k =>
          have hk := hbest k rfl
          obtain ⟨u4, g4, i4⟩ := ip.pt hk
          have e03 := e02.trans e3
          have a1 : A4 K (fun u v p q => .bl (mlP u v p q)) [u1, u2, u3, u4] H3 (.bl (mlP (S.pt u) (S.pt h) (S.pt t) (S.pt k))) := ⟨_, _, _, _, _, _, _, _, rfl, i1.mono e03, i2.mono e03, i3.mono e03, i4.mono e03, rfl⟩
          apply s_when (b := mlP (S.pt u) (S.pt h) (S.pt t) (S.pt k))
          · refine et_is (a := decide (V.int (k : Int) = V.non) || mlP (S.pt u) (S.pt h) (S.pt t) (S.pt k)) (et_or ?_ (fun _ => ?_)) (by simp)
            · apply et_test
              exact fun H4 e4 Q4 q4 => ⟨.int k, rfl, rfl, q4 H4 (Ex.refl H4)⟩
            · walk_at "ev"
          · intro hm H4 e4
            have : Geo.moreLeft S u h t k = true := hm
            simp only [this, if_true]
            apply s_asg
            · exact ev_var rfl
            · exact fun H5 e5 => ⟨⟨_, rfl⟩, ((e2.trans e3).trans e4).trans e5⟩
          · intro hm H4 e4
            have : Geo.moreLeft S u h t k = false := hm
            simp only [this]
            exact ⟨⟨_, rfl⟩, (e2.trans e3).trans e4⟩
      · intro hb2 H3 e3
        have ntu : t = u := by simpa using hb2
        rw [if_pos ntu]
        exact ⟨⟨_, rfl⟩, e2.trans e3⟩
    · rintro σ' H2 ⟨z, rfl⟩ e2
      rw [List.take_length]
      apply s_ret
      · exact ev_var rfl
      · exact fun H3 e3 => kq H3 ((e1.trans e2).trans e3)
    · walk_at "ev"
/-! ### a row round -/
def Aou (K : PySem.W.Frag) : List V → Hp → (V → Hp → Prop) → Prop := fun vs H R => ∃ (x y : V) (S : Plan) (e : Nat × Nat), vs = [x, y, .int e.1, .int e.2] ∧ isL K (isPt K) S.pts x H ∧ isG K (adjOf S) y H ∧ GN S ∧ Geo.Whole S ∧ Geo.Da S e ∧
  R = fun v H' => ∃ p, v = .ref p ∧ H' p = some (.lst ((Geo.orb S e).map fun (n : Nat) => V.int (n : Int)))
theorem Aou.mono : Mono (Aou K) := fun vs H H' v e ⟨x, y, S, d, h, h1, h2, h3⟩ => ⟨x, y, S, d, h, h1.mono monoPt e, h2.mono e, h3⟩
abbrev s_outline_from : Stmt := topS 53
abbrev N_outline_from : List Str := ["points", "neighbours", "first", "second", "outline", "come_from", "here", "there"]
theorem sc_outline_from : FnScope N_outline_from ["points", "neighbours", "first", "second"] (defScope s_outline_from) := ⟨rfl, rfl, rfl, by decide +kernel, rfl, by decide +kernel, by decide +kernel⟩
theorem k_outline_from (F : Dfn K mg "outline_from" s_outline_from ["points", "neighbours", "first", "second"]) (c_leftmost : Cal P w K mg base 3 "leftmost" (spV (Alm K))) :
    Cal P w K mg base 4 "outline_from" (spR (Aou K)) := by
  refine mk_R F sc_outline_from (fun vs H v h => by obtain ⟨_, _, _, _, rfl, _⟩ := h; rfl) (fun f cdv A' outer s H vs E v hr a => ?_)
  obtain ⟨x, y, S, d, rfl, ip, iN, gn, wh, hd, rfl⟩ := a
  have G := wh.toGood
  obtain ⟨k, Pd⟩ := Geo.per_ex G wh.two hd
  have m1 : Mono (Alm K) := Alm.mono
  have hk70 : k ≤ 140000 := by have := Pd.le; have := gn.nl; omega
  have ho := Geo.orb_eq Pd
  -- k is below the bound, as no point comes twice
  have hkp : k ≤ S.pts.length := by
    have nd : ((List.range k).map (Geo.fa S d)).Nodup := Geo.nodup_range_map fun i j h1 h2 => Geo.simple wh hd Pd i j h1 h2
    have := Geo.sub_len (m := List.range S.pts.length) nd (fun z hz => by
      obtain ⟨i, _, rfl⟩ := List.mem_map.1 hz
      exact List.mem_range.2 (Geo.near_ub G (Geo.fa_near wh hd i)).2)
    simpa using this
  refine ⟨_, (pss_cons (ps_set (i := 4) sc_outline_from.nd rfl (Or.inl rfl) (pe_lst (pa_cons (pv 2) pa_nil)))
      (pss_cons (ps_set (i := 5) sc_outline_from.nd rfl (Or.inl rfl) (pv 2))
      (pss_cons (ps_set (i := 6) sc_outline_from.nd rfl (Or.inl rfl) (pv 3))
      (pss_cons (ps_while PassesOwn.never (pt_cmpR op_ne (pv 6) (pv 2) (nomark _)) (pss_cons (ps_expr (pe_bm PySem.F.plainAttrs_list PySem.F.slot_list_append PySem.F.type_list_append mt_append (pv 4) (pa_cons (pv 6) pa_nil)))
      (pss_cons (ps_set (i := 7) sc_outline_from.nd rfl (Or.inl rfl) (pe_c c_leftmost hr (by decide) (by rfl) (pa_cons (pv 0) (pa_cons (pv 1) (pa_cons (pv 5) (pa_cons (pv 6) pa_nil))))))
      (pss_cons (ps_set (i := 5) sc_outline_from.nd rfl (Or.inl rfl) (pv 6))
      (pss_one (ps_set (i := 6) sc_outline_from.nd rfl (Or.inl rfl) (pv 7)))))))
      (pss_one (ps_ret (pv 4))))))), fun Q kq => ?_⟩
  have kge : 2 ≤ k := by
    have := Pd.pos
    rcases Nat.lt_or_ge 1 k with h | h
    · exact h
    · exfalso
      have : k = 1 := by omega
      subst this
      have hb := Pd.back
      have n := Geo.near_ne G hd
      have : (Geo.it S 1 d).1 = d.1 := by rw [hb]
      exact n this
  refine q_asgL (xs := [.int d.1]) (el_lst ?_ (by simp)) ?_
  · walk_at "ev"
  · intro l H1 hl e1 h1
    apply q_asg
    · walk_at "ev"
    · intro H2 e2
      apply q_asg
      · walk_at "ev"
      · intro H3 e3
        have hfn : ∀ i, Geo.fa S d i < S.pts.length := fun i => (Geo.near_ub G (Geo.fa_near wh hd i)).2
        refine q_while (fun m σ H' => ∃ (i : Nat) (z : Option V), m = k - i ∧ 1 ≤ i ∧ i ≤ k ∧ σ = [some x, some y, some (.int d.1), some (.int d.2), some (.ref l), some (.int (Geo.fa S d (i - 1))), some (.int (Geo.fa S d i)), z] ∧ Ex H H' ∧
          H' l = some (.lst (((List.range i).map (Geo.fa S d)).map fun (n : Nat) => V.int (n : Int)))) (k - 1) ?_ ?_
        · exact ⟨1, none, rfl, Nat.le_refl _, by omega, rfl, (e1.trans e2).trans e3, e3 _ _ (e2 _ _ h1)⟩
        · rintro m σ' H4 ⟨i, z, rfl, hi1, hik, rfl, e4, hl4⟩
          have hne : Geo.fa S d i = d.1 ↔ i = k := by
            constructor
            · intro h
              rcases Nat.lt_or_ge i k with q | q
              · exact absurd (show Geo.fa S d 0 = Geo.fa S d i from h.symm) (Geo.simple wh hd Pd 0 i (by omega) q)
              · omega
            · rintro rfl; exact Geo.fa_back Pd
          refine ⟨!decide (V.int (Geo.fa S d i : Int) = .int (d.1 : Int)), ?_, ?_, ?_⟩
          · walk_at "ev"
          · intro hb H5 e5
            have hik' : i < k := by
              have : ¬ Geo.fa S d i = d.1 := by
                intro q; rw [q] at hb; simp at hb
              have : i ≠ k := fun q => this (hne.2 q)
              omega
            have he5 : Ex H (upd H5 l (.lst (((List.range i).map (Geo.fa S d)).map (fun (n : Nat) => V.int (n : Int)) ++ [.int (Geo.fa S d i : Int)]))) := Ex.mut (e4.trans e5) hl
            refine ⟨fun σ2 H2 => ∃ m', m' < k - i ∧ ∃ (i : Nat) (z : Option V), m' = k - i ∧ 1 ≤ i ∧ i ≤ k ∧ σ2 = [some x, some y, some (.int d.1), some (.int d.2), some (.ref l), some (.int (Geo.fa S d (i - 1))), some (.int (Geo.fa S d i)), z] ∧ Ex H H2 ∧
              H2 l = some (.lst (((List.range i).map (Geo.fa S d)).map fun (n : Nat) => V.int (n : Int))), fun σ2 H2 h => h, ?_⟩
            refine q_app (v := .int (Geo.fa S d i : Int)) (e5 _ _ hl4) ?_ ?_ ?_ ?_
            · walk_at "ev"
            · walk_at "ev"
            · simp; have := gn.np; omega
            · intro H6 e6
              have he6 : Ex H (upd H6 l (.lst (((List.range i).map (Geo.fa S d)).map (fun (n : Nat) => V.int (n : Int)) ++ [.int (Geo.fa S d i : Int)]))) := Ex.mut ((e4.trans e5).trans e6) hl
              have hl6 : (upd H6 l (.lst (((List.range i).map (Geo.fa S d)).map (fun (n : Nat) => V.int (n : Int)) ++ [.int (Geo.fa S d i : Int)]))) l = some (.lst (((List.range (i + 1)).map (Geo.fa S d)).map fun (n : Nat) => V.int (n : Int))) := by
                rw [upd_same, List.range_succ, List.map_append, List.map_append]; rfl
              generalize (upd H6 l (.lst (((List.range i).map (Geo.fa S d)).map (fun (n : Nat) => V.int (n : Int)) ++ [.int (Geo.fa S d i : Int)]))) = H7 at *
              have hpr := Geo.fa_near wh hd (i - 1)
              rw [show i - 1 + 1 = i by omega] at hpr
              have hu := (Geo.near_symm G).1 hpr
              have hnx : Geo.lmost S (Geo.fa S d (i - 1)) (Geo.fa S d i) none (S.near (Geo.fa S d i)) = some (Geo.fa S d (i + 1)) := by
                rw [Geo.lmost_next G hu (wh.two _ _ hu)]
                have := Geo.fa_next S d (i - 1)
                rw [show i - 1 + 2 = i + 1 by omega, show i - 1 + 1 = i by omega] at this
                rw [this]
              have a1 : Alm K [x, y, .int (Geo.fa S d (i - 1) : Nat), .int (Geo.fa S d i : Nat)] H7 (.int (Geo.fa S d (i + 1) : Nat)) := ⟨_, _, S, _, _, rfl, ip.mono monoPt he6, iN.mono he6, gn, hfn _, hfn _, by rw [hnx]; rfl⟩
              apply q_asg
              · walk_at "ev"
              · intro H8 e8
                apply q_asg
                · walk_at "ev"
                · intro H9 e9
                  apply s_asg
                  · walk_at "ev"
                  · intro H10 e10
                    exact ⟨k - (i + 1), by omega, i + 1, _, rfl, by omega, by omega, rfl, ((he6.trans e8).trans e9).trans e10, e10 _ _ (e9 _ _ (e8 _ _ hl6))⟩
          · intro hb H5 e5
            have hik' : i = k := by
              rw [← hne]; simp at hb; omega
            subst hik'
            apply s_ret
            · exact ev_var rfl
            · intro H6 e6
              refine kq _ H6 ((e4.trans e5).trans e6) ⟨l, rfl, ?_⟩
              rw [ho]; exact e6 _ _ (e5 _ _ hl4)
end
end Hl
end PHl10

section PRl5
set_option Elab.async false
set_option linter.all false
set_option maxRecDepth 100000
set_option maxHeartbeats 2000000
namespace Hl
open PySem PySem.Spec PyProof.Rows L2
section
variable {prog : Program} {w : World} {A : Around} {E : Value → Shared → Prop} {s : Shared}
/-! zip whose last pair is gone -/
abbrev ZqAt (h : Heap) (z TI TO : Addr) (g : Value) (f : Bool) : Prop := h.get? z = some { cls := .type "zip", dict := none, data := .fields #[g, .bool f, .bool false, .ref TI, .ref TO], slots := #[] }
theorem zq_look {a : Addr} {Q : Option Obj → Shared → Prop} (q : Q (s.heap.get? a) s) : wpAny (model prog w) A (loadIfAlive a) Q E s := fun _ _ _ => q
theorem zq_free {z TI TO T : Addr} {f : Bool} {Q : Bool → Shared → Prop} (zh : IsZipHeld s.heap z TI TO T f) (no : s.heap.get? T = none) (q : Q true s) : wpAny (model prog w) A (Builtin.SmallTypes.ownedTupleIsFree (.ref z)) Q E s := by
  unfold Builtin.SmallTypes.ownedTupleIsFree
  refine wpAny_bind (wpAny_field zh rfl (x := rawInt T) rfl ?_)
  change wpAny _ _ (loadIfAlive ((T : Int).toNat) >>= _) _ _ s
  rw [Int.toNat_natCast]
  refine wpAny_bind (zq_look ?_)
  rw [no]
  exact wpAny_pure q
theorem zq_item {z TI TO T i1 i2 l1 l2 : Addr} {f : Bool} {m n : Nat} {us vs : Array Value} {u v a b : Value} {Q : Value → Shared → Prop} (D : ZipApart z TI TO i1 i2 l1 l2)
    (zh : IsZipHeld s.heap z TI TO T f) (no : s.heap.get? T = none) (pI : IsPair s.heap TI (.ref i1) (.ref i2)) (pO : IsPair s.heap TO a b)
    (g1 : s.heap.IsListIter i1 l1 m) (g2 : s.heap.IsListIter i2 l2 n) (L1 : s.heap.IsList l1 us) (L2 : s.heap.IsList l2 vs) (eu : us[m]? = some u) (ev : vs[n]? = some v)
    (q : ∀ h', IsZip h' z TI TO (rawInt s.heap.objs.size) → IsPair h' TO u v → h'.IsListIter i1 l1 (m + 1) → h'.IsListIter i2 l2 (n + 1) → IsPair h' s.heap.objs.size u v → h'.objs.size = s.heap.objs.size + 1 →
      (∀ c o, c ≠ z → c ≠ TO → c ≠ i1 → c ≠ i2 → s.heap.get? c = some o → h'.get? c = some o) → Q (.ref s.heap.objs.size) { s with heap := h' }) :
    wpAny (model prog w) A (Builtin.«zip.__next__» ⟨[.ref z], []⟩) (fun r s' => ∃ v, r = .done (.ret v) ∧ Q v s') E s := by
  change wpAny _ _ (field (.ref z) 2 >>= _) _ _ _
  refine wpAny_bind (wpAny_field zh rfl (x := .bool false) rfl ?_)
  change wpAny _ _ (field (.ref z) 3 >>= _) _ _ _
  refine wpAny_bind (wpAny_field zh rfl (x := .ref TI) rfl ?_)
  refine wpAny_bind (wpAny_seqItems pI rfl ?_)
  change wpAny _ _ (Builtin.SmallTypes.ownedTupleIsFree (.ref z) >>= _) _ _ _
  refine wpAny_bind (zq_free zh no ?_)
  simp only [if_true]
  refine wpAny_bind (wpAny_rule ?_)
  refine wpAny_bind (wpAny_field zh rfl (x := .ref TO) rfl ?_)
  refine wpAny_bind (wpAny_setField_rec zh (by simp) fun k1 y1 b1 => ?_)
  replace y1 : ZqAt k1 z TI TO .ellipsis f := y1
  refine wpAny_bind ?_
  simp only [List.zipIdx_cons, List.zipIdx_nil, List.forIn_cons, List.forIn_nil]
  refine wpAny_bind (wpAny_bind (wpAny_onRaise ?_))
  change wpAny _ _ (Builtin.SmallTypes.nextOf (.ref i1) >>= _) _ _ _
  refine wpAny_bind (wpAny_nextOf_list_item (g1.extBut b1.extBut D.i1z) (L1.extBut b1.extBut D.l1z) eu fun k2 w1 b2 => wpAny_pure ?_)
  have pO2 : IsPair k2 TO a b := b2.extBut _ _ D.TOi1 (b1.extBut _ _ D.TOz pO)
  refine wpAny_bind (wpAny_seqItems pO2 rfl ?_)
  refine wpAny_bind (wpAny_updateSeq_pair pO2 fun k3 pO3 b3 => ?_)
  replace pO3 : IsPair k3 TO u b := pO3
  refine wpAny_bind (wpAny_letGo (wpAny_pure ?_))
  refine wpAny_bind (wpAny_bind (wpAny_onRaise ?_))
  change wpAny _ _ (Builtin.SmallTypes.nextOf (.ref i2) >>= _) _ _ _
  refine wpAny_bind (wpAny_nextOf_list_item (((g2.extBut b1.extBut D.i2z).extBut b2.extBut D.i12.symm).extBut b3.extBut D.TOi2.symm) (((L2.extBut b1.extBut D.l2z).extBut b2.extBut D.l2i1).extBut b3.extBut D.l2TO) ev fun k4 w2 b4 => wpAny_pure ?_)
  have pO4 : IsPair k4 TO u b := b4.extBut _ _ D.TOi2 pO3
  refine wpAny_bind (wpAny_seqItems pO4 rfl ?_)
  refine wpAny_bind (wpAny_updateSeq_pair pO4 fun k5 pO5 b5 => ?_)
  replace pO5 : IsPair k5 TO u v := pO5
  refine wpAny_bind (wpAny_letGo (wpAny_pure (wpAny_pure ?_)))
  refine wpAny_bind (wpAny_seqItems pO5 rfl ?_)
  refine wpAny_bind (wpAny_newTuple ?_)
  have sz : k5.objs.size = s.heap.objs.size := by rw [b5.1, b4.1, b3.1, b2.1, b1.1]
  have y5 : ZqAt k5 z TI TO .ellipsis f := b5.extBut _ _ D.TOz.symm (b4.extBut _ _ D.i2z.symm (b3.extBut _ _ D.TOz.symm (b2.extBut _ _ D.i1z.symm y1)))
  have ke : ∀ c o, c ≠ z → c ≠ TO → c ≠ i1 → c ≠ i2 → s.heap.get? c = some o → k5.get? c = some o := fun c o d1 d2 d3 d4 e => b5.extBut _ _ d2 (b4.extBut _ _ d4 (b3.extBut _ _ d2 (b2.extBut _ _ d3 (b1.extBut _ _ d1 e))))
  have w5 : k5.IsListIter i1 l1 (m + 1) := ((w1.extBut b3.extBut D.TOi1.symm).extBut b4.extBut D.i12).extBut b5.extBut D.TOi1.symm
  have x5 : k5.IsListIter i2 l2 (n + 1) := w2.extBut b5.extBut D.TOi2.symm
  have lz : z < k5.objs.size := Heap.lt_size y5
  change wpAny _ _ (Builtin.SmallTypes.ownedTupleHandOut (.ref z) (.ref k5.objs.size) >>= _) _ _ _
  refine wpAny_bind ?_
  unfold Builtin.SmallTypes.ownedTupleHandOut
  have y6 : ZqAt (k5.push { cls := .type "tuple", data := .seq #[u, v] }) z TI TO .ellipsis f := Heap.get?_push_of_some _ y5
  refine wpAny_bind (wpAny_setField_rec y6 (by simp) fun k7 y7 b7 => ?_)
  replace y7 : ZqAt k7 z TI TO (rawInt k5.objs.size) f := y7
  refine wpAny_setField_rec y7 (by simp) fun k8 y8 b8 => ?_
  replace y8 : IsZip k8 z TI TO (rawInt k5.objs.size) := y8
  have up : ∀ c o, c ≠ z → k5.get? c = some o → k8.get? c = some o := fun c o d1 e => b8.extBut _ _ d1 (b7.extBut _ _ d1 (Heap.get?_push_of_some _ e))
  have t8 : IsPair k8 k5.objs.size u v := b8.extBut _ _ (Nat.ne_of_gt lz) (b7.extBut _ _ (Nat.ne_of_gt lz) (Heap.get?_push_size _ rfl))
  have s8 : k8.objs.size = k5.objs.size + 1 := by rw [b8.1, b7.1, Heap.size_push]
  rw [sz] at y8 t8 s8
  refine wpAny_pure ⟨_, rfl, ?_⟩
  change Q (.ref k5.objs.size) _
  rw [sz]
  exact q k8 y8 (up _ _ D.TOz pO5) (w5.at fun o e => up _ o D.i1z e) (x5.at fun o e => up _ o D.i2z e) t8 s8 fun c o d1 d2 d3 d4 e => up c o d1 (ke c o d1 d2 d3 d4 e)
theorem zq_end {z TI TO T i1 i2 l1 l2 : Addr} {f : Bool} {m n : Nat} {us vs : Array Value} {a b : Value} {Q : Fin → Shared → Prop} (hh : A.handled = none) (D : ZipApart z TI TO i1 i2 l1 l2)
    (zh : IsZipHeld s.heap z TI TO T f) (no : s.heap.get? T = none) (pI : IsPair s.heap TI (.ref i1) (.ref i2)) (pO : IsPair s.heap TO a b)
    (g1 : s.heap.IsListIter i1 l1 m) (g2 : s.heap.IsListIter i2 l2 n) (L1 : s.heap.IsList l1 us) (L2 : s.heap.IsList l2 vs) (en : us[m]? = none ∨ vs[n]? = none)
    (q : ∀ h' e, (∀ c o, c ≠ z → c ≠ TO → c ≠ i1 → c ≠ i2 → s.heap.get? c = some o → h'.get? c = some o) → (∃ o, h'.get? e = some o ∧ o.cls = .type "StopIteration") → E (.ref e) { s with heap := h' }) :
    wpAny (model prog w) A (Builtin.«zip.__next__» ⟨[.ref z], []⟩) Q E s := by
  change wpAny _ _ (field (.ref z) 2 >>= _) _ _ _
  refine wpAny_bind (wpAny_field zh rfl (x := .bool false) rfl ?_)
  change wpAny _ _ (field (.ref z) 3 >>= _) _ _ _
  refine wpAny_bind (wpAny_field zh rfl (x := .ref TI) rfl ?_)
  refine wpAny_bind (wpAny_seqItems pI rfl ?_)
  change wpAny _ _ (Builtin.SmallTypes.ownedTupleIsFree (.ref z) >>= _) _ _ _
  refine wpAny_bind (zq_free zh no ?_)
  simp only [if_true]
  refine wpAny_bind (wpAny_rule ?_)
  refine wpAny_bind (wpAny_field zh rfl (x := .ref TO) rfl ?_)
  refine wpAny_bind (wpAny_setField_rec zh (by simp) fun k1 y1 b1 => ?_)
  replace y1 : ZqAt k1 z TI TO .ellipsis f := y1
  refine wpAny_bind ?_
  simp only [List.zipIdx_cons, List.zipIdx_nil, List.forIn_cons, List.forIn_nil]
  refine wpAny_bind (wpAny_bind (wpAny_onRaise ?_))
  change wpAny _ _ (Builtin.SmallTypes.nextOf (.ref i1) >>= _) _ _ _
  cases eu : us[m]? with
  | none =>
    refine wpAny_bind (wpAny_nextOf_list_end hh (g1.extBut b1.extBut D.i1z) (L1.extBut b1.extBut D.l1z) eu fun k2 e b2 he => ?_)
    obtain ⟨oe, oh, oc⟩ := he
    have y2 : ZqAt k2 z TI TO .ellipsis f := b2 _ _ D.i1z.symm y1
    have ne : e ≠ z := fun x => by subst x; rw [y2] at oh; cases oh; simp at oc
    refine wpAny_setField_rec y2 (by simp) fun k3 _ b3 => q k3 e (fun c o d1 _ d3 _ x => b3.extBut _ _ d1 (b2 _ _ d3 (b1.extBut _ _ d1 x))) ⟨oe, b3.extBut _ _ ne oh, oc⟩
  | some u =>
    have ev : vs[n]? = none := by
      rcases en with h | h
      · rw [eu] at h; cases h
      · exact h
    refine wpAny_bind (wpAny_nextOf_list_item (g1.extBut b1.extBut D.i1z) (L1.extBut b1.extBut D.l1z) eu fun k2 w1 b2 => wpAny_pure ?_)
    have pO2 : IsPair k2 TO a b := b2.extBut _ _ D.TOi1 (b1.extBut _ _ D.TOz pO)
    refine wpAny_bind (wpAny_seqItems pO2 rfl ?_)
    refine wpAny_bind (wpAny_updateSeq_pair pO2 fun k3 pO3 b3 => ?_)
    refine wpAny_bind (wpAny_letGo (wpAny_pure ?_))
    refine wpAny_bind (wpAny_bind (wpAny_onRaise ?_))
    change wpAny _ _ (Builtin.SmallTypes.nextOf (.ref i2) >>= _) _ _ _
    refine wpAny_bind (wpAny_nextOf_list_end hh (((g2.extBut b1.extBut D.i2z).extBut b2.extBut D.i12.symm).extBut b3.extBut D.TOi2.symm) (((L2.extBut b1.extBut D.l2z).extBut b2.extBut D.l2i1).extBut b3.extBut D.l2TO) ev fun k4 e b4 he => ?_)
    obtain ⟨oe, oh, oc⟩ := he
    have y4 : ZqAt k4 z TI TO .ellipsis f := b4 _ _ D.i2z.symm (b3.extBut _ _ D.TOz.symm (b2.extBut _ _ D.i1z.symm y1))
    have ne : e ≠ z := fun x => by subst x; rw [y4] at oh; cases oh; simp at oc
    refine wpAny_setField_rec y4 (by simp) fun k5 _ b5 => q k5 e (fun c o d1 d2 d3 d4 x => b5.extBut _ _ d1 (b4 _ _ d4 (b3.extBut _ _ d2 (b2.extBut _ _ d3 (b1.extBut _ _ d1 x))))) ⟨oe, b5.extBut _ _ ne oh, oc⟩
theorem zq_nextItem {z TI TO T i1 i2 l1 l2 : Addr} {f : Bool} {m n : Nat} {us vs : Array Value} {u v a b : Value} {Q : Option Value → Shared → Prop} (D : ZipApart z TI TO i1 i2 l1 l2)
    (zh : IsZipHeld s.heap z TI TO T f) (pI : IsPair s.heap TI (.ref i1) (.ref i2)) (pO : IsPair s.heap TO a b)
    (g1 : s.heap.IsListIter i1 l1 m) (g2 : s.heap.IsListIter i2 l2 n) (L1 : s.heap.IsList l1 us) (L2 : s.heap.IsList l2 vs) (eu : us[m]? = some u) (ev : vs[n]? = some v)
    (q : ∀ h', (∃ T f, IsZipHeld h' z TI TO T f) → (∃ a b, IsPair h' TO a b) → IsPair h' TI (.ref i1) (.ref i2) → h'.IsListIter i1 l1 (m + 1) → h'.IsListIter i2 l2 (n + 1) → IsPair h' s.heap.objs.size u v →
      (∀ c o, c ≠ z → c ≠ TO → c ≠ i1 → c ≠ i2 → s.heap.get? c = some o → h'.get? c = some o) → Q (some (.ref s.heap.objs.size)) { s with heap := h' }) :
    wpAny (model prog w) A (pyNext (.ref z)) Q E s := by
  have ty : s.TypeIs (.ref z) "zip" := ⟨_, zh, rfl⟩
  cases al : s.heap.get? T with
  | some oT => exact wpAny_pyNext_zip_item_held D zh al pI g1 g2 L1 L2 eu ev fun h' e1 e2 e3 e4 _ k => q h' ⟨_, _, e1⟩ ⟨a, b, k _ _ D.TOz D.TOi1 D.TOi2 pO⟩ (k _ _ D.TIz D.TIi1 D.TIi2 pI) e2 e3 e4 fun c o d1 _ d3 d4 x => k c o d1 d3 d4 x
  | none =>
    unfold pyNext
    exact wpAny_bind (wpAny_attempt (wpAny_callSpecial?_slot (name := Str.ofString "__next__") ty F.slot_zip_next (wpAny_call_entry F.slot_zip_next ty F.entry_zip_next
      (zq_item D zh al pI pO g1 g2 L1 L2 eu ev fun h' e1 e2 e3 e4 e5 _ k => wpAny_pure (q h' ⟨_, _, e1⟩ ⟨_, _, e2⟩ (k _ _ D.TIz D.TITO D.TIi1 D.TIi2 pI) e3 e4 e5 k)) (F.args_zip_next_1 _))))
theorem zq_nextEnd {z TI TO T i1 i2 l1 l2 : Addr} {f : Bool} {m n : Nat} {us vs : Array Value} {a b : Value} {Q : Option Value → Shared → Prop} (hh : A.handled = none) (D : ZipApart z TI TO i1 i2 l1 l2)
    (zh : IsZipHeld s.heap z TI TO T f) (pI : IsPair s.heap TI (.ref i1) (.ref i2)) (pO : IsPair s.heap TO a b)
    (g1 : s.heap.IsListIter i1 l1 m) (g2 : s.heap.IsListIter i2 l2 n) (L1 : s.heap.IsList l1 us) (L2 : s.heap.IsList l2 vs) (en : us[m]? = none ∨ vs[n]? = none)
    (q : ∀ h', (∀ c o, c ≠ z → c ≠ TO → c ≠ i1 → c ≠ i2 → s.heap.get? c = some o → h'.get? c = some o) → Q none { s with heap := h' }) : wpAny (model prog w) A (pyNext (.ref z)) Q E s := by
  have ty : s.TypeIs (.ref z) "zip" := ⟨_, zh, rfl⟩
  cases al : s.heap.get? T with
  | some oT => exact wpAny_pyNext_zip_end_held hh D zh al pI g1 g2 L1 L2 en fun h' k => q h' fun c o d1 _ d3 d4 x => k c o d1 d3 d4 x
  | none =>
    unfold pyNext
    refine wpAny_bind (wpAny_attempt (wpAny_callSpecial?_slot (name := Str.ofString "__next__") ty F.slot_zip_next (wpAny_call_entry F.slot_zip_next ty F.entry_zip_next (zq_end hh D zh al pI pO g1 g2 L1 L2 en fun h' e k x => ?_) (F.args_zip_next_1 _))))
    obtain ⟨o, ho, hc⟩ := x
    refine wpAny_bind (wpAny_isInstance (T := "StopIteration") (b := true) ⟨o, ho, hc⟩ isSubtype_stop ?_)
    exact wpAny_pure (q _ k)
end
theorem turn_zipN {P : Program} {w : World} {K : PySem.W.Frag} {nm : String} {tpos : Pos} {a b z TI TO i1 i2 : Addr} (D : ZipApart z TI TO i1 i2 a b) :
    Turn P w K (.Name nm tpos) (Itz K a b) [z, TI, TO, i1, i2] z (fun i h => (IsZip h z TI TO .none ∨ ∃ T f, IsZipHeld h z TI TO T f) ∧ IsPair h TI (.ref i1) (.ref i2) ∧ (∃ x y, IsPair h TO x y) ∧ h.IsListIter i1 a i ∧ h.IsListIter i2 b i) where
  mem := by simp
  obj := fun i h st c hc => by
    obtain ⟨hz, hTI, ⟨x, y, hTO⟩, ⟨o1, e1, _, d1⟩, ⟨o2, e2, _, d2⟩⟩ := st
    rcases (show c = z ∨ c = TI ∨ c = TO ∨ c = i1 ∨ c = i2 by simpa using hc) with q | q | q | q | q <;> rw [q]
    · rcases hz with hz | ⟨T, f, hz⟩ <;> exact ⟨_, hz, fun v q => nomatch q⟩
    · exact ⟨_, hTI, fun v q => nomatch q⟩
    · exact ⟨_, hTO, fun v q => nomatch q⟩
    · exact ⟨o1, e1, fun v q => by rw [d1] at q; cases q⟩
    · exact ⟨o2, e2, fun v q => by rw [d2] at q; cases q⟩
  keep := fun i h h' st k => by
    obtain ⟨hz, hTI, ⟨x, y, hTO⟩, h1, h2⟩ := st
    refine ⟨hz.imp (fun q => k z (by simp) _ q) (fun ⟨T, f, q⟩ => ⟨T, f, k z (by simp) _ q⟩), ?_⟩
    exact ⟨k TI (by simp) _ hTI, ⟨x, y, k TO (by simp) _ hTO⟩, h1.at fun o q => k i1 (by simp) o q, h2.at fun o q => k i2 (by simp) o q⟩
  item := by
    intro X hP hw hK hc i pins s σ H E I hf st hg
    subst hP hw hK
    obtain ⟨hz, hTI, ⟨x0, y0, hTO⟩, h1, h2⟩ := st
    obtain ⟨xs, ys, x, y, hqx, hqy, hx, hy⟩ := hg
    obtain ⟨its, rv, p, _⟩ := I.list hqx
    obtain ⟨its2, rv2, p2, _⟩ := I.list hqy
    obtain ⟨u, hu, ru⟩ := rv.get hx
    obtain ⟨u2, hu2, ru2⟩ := rv2.get hy
    have lz : z < s.heap.objs.size := by
      rcases hz with q | ⟨_, _, q⟩ <;> exact Heap.lt_size q
    have fin : ∀ h' : Heap, (∃ T f, IsZipHeld h' z TI TO T f) → (∃ a b, IsPair h' TO a b) → IsPair h' TI (.ref i1) (.ref i2) → h'.IsListIter i1 a (i + 1) → h'.IsListIter i2 b (i + 1) → IsPair h' s.heap.objs.size u u2 →
        (∀ c o, c ≠ z → c ≠ TO → c ≠ i1 → c ≠ i2 → s.heap.get? c = some o → h'.get? c = some o) →
        ∃ v, some (Value.ref s.heap.objs.size) = some v ∧ wpAny (model X.prog X.w) X.A (letOwnedTupleGo (.Name nm tpos) (.ref z) v) (fun _ s2 => ∃ x H', Inv X pins σ H' s2 ∧ RelV x v ∧ (Itz X.K a b).yld i H x H' ∧ ((IsZip s2.heap z TI TO .none ∨ ∃ T f, IsZipHeld s2.heap z TI TO T f) ∧ IsPair s2.heap TI (.ref i1) (.ref i2) ∧ (∃ x y, IsPair s2.heap TO x y) ∧ s2.heap.IsListIter i1 a (i + 1) ∧ s2.heap.IsListIter i2 b (i + 1)) ∧ ∀ b ∈ [z, TI, TO, i1, i2], H' b = none) E { s with heap := h' } := by
      intro h' z' tO tI g1 g2 hT k
      refine ⟨_, rfl, ?_⟩
      unfold letOwnedTupleGo
      refine wpAny_pure ?_
      have new : ObjOk X.prog X.w (upd H s.heap.objs.size (.tup [x, y])) h' s.heap.objs.size (.tup [x, y]) := ⟨by show 2 ≤ sizeLine; decide, [u, u2], .cons ru (.cons ru2 .nil), ⟨_, hT, rfl, _, rfl⟩⟩
      have I1 : Inv X pins σ (upd H s.heap.objs.size (.tup [x, y])) { s with heap := h' } :=
        I.turnedNew (t' := s.toks) (ch := [z, TI, TO, i1, i2]) (fun c o hb q => k c o (fun e => hb (by simp [e])) (fun e => hb (by simp [e])) (fun e => hb (by simp [e])) (fun e => hb (by simp [e])) q) hf (Nat.le_refl _) new
      refine ⟨.ref s.heap.objs.size, _, I1, rfl, ⟨_, x, y, rfl, I.hok.fresh (Nat.le_refl _), rfl, fun l hl => by rw [I.list_inj hl hqx]; exact hx, fun l hl => by rw [I.list_inj hl hqy]; exact hy⟩, ⟨.inr z', tI, tO, g1, g2⟩, fun c hcm => ?_⟩
      have lt : c < s.heap.objs.size := by
        rcases (show c = z ∨ c = TI ∨ c = TO ∨ c = i1 ∨ c = i2 by simpa using hcm) with q | q | q | q | q <;> rw [q]
        · exact lz
        · exact Heap.lt_size hTI
        · exact Heap.lt_size hTO
        · obtain ⟨_, e1, _⟩ := h1; exact Heap.lt_size e1
        · obtain ⟨_, e2, _⟩ := h2; exact Heap.lt_size e2
      rw [upd_ne (Nat.ne_of_lt lt)]
      exact (hf c hcm).1
    rcases hz with hz | ⟨T, f, hz⟩
    · exact wpAny_pyNext_zip_item D hz hTI hTO h1 h2 p.isList p2.isList (x := u) (y := u2) (by simpa using hu) (by simpa using hu2) fun h' e1 e2 e3 e4 e5 _ k => fin h' ⟨_, _, e1⟩ ⟨_, _, e2⟩ (k _ _ D.TIz D.TITO D.TIi1 D.TIi2 hTI) e3 e4 e5 k
    · exact zq_nextItem D hz hTI hTO h1 h2 p.isList p2.isList (u := u) (v := u2) (by simpa using hu) (by simpa using hu2) fin
  done := by
    intro X hP hw hK hc i pins s σ H E I hf st hg
    subst hP hw hK
    obtain ⟨hz, hTI, ⟨x0, y0, hTO⟩, h1, h2⟩ := st
    obtain ⟨xs, ys, hqx, hqy, hend⟩ := hg
    obtain ⟨its, rv, p, _⟩ := I.list hqx
    obtain ⟨its2, rv2, p2, _⟩ := I.list hqy
    have e1 := rv.length
    have e2 := rv2.length
    have he : its.toArray[i]? = none ∨ its2.toArray[i]? = none := by
      rcases hend with q | q
      · left; simp; omega
      · right; simp; omega
    have fin : ∀ h' : Heap, (∀ c o, c ≠ z → c ≠ TO → c ≠ i1 → c ≠ i2 → s.heap.get? c = some o → h'.get? c = some o) → (none : Option Value) = none ∧ Inv X pins σ H { s with heap := h' } := fun h' k => ⟨rfl, I.turnedL (t' := s.toks) (ch := [z, TI, TO, i1, i2]) (fun c o hb q => k c o (fun e => hb (by simp [e])) (fun e => hb (by simp [e])) (fun e => hb (by simp [e])) (fun e => hb (by simp [e])) q) hf⟩
    rcases hz with hz | ⟨T, f, hz⟩
    · exact wpAny_pyNext_zip_end (I.ok.hd hc) D hz hTI hTO h1 h2 p.isList p2.isList he fin
    · exact zq_nextEnd (I.ok.hd hc) D hz hTI hTO h1 h2 p.isList p2.isList he fin
  self := fun A i s Q E st h => by
    rcases st.1 with q | ⟨T, f, q⟩
    · exact wpAny_pyIter_zip q h
    · have ty : s.TypeIs (.ref z) "zip" := ⟨_, q, rfl⟩
      refine wpAny_pyIter_slot ty F.slot_zip_iter (wpAny_call_entry F.slot_zip_iter ty F.entry_zip_iter ?_ (F.args_zip_iter_1 _))
      change wpAny _ _ (ret (.ref z)) _ _ s
      exact wpAny_pure ⟨_, rfl, "zip", _, ty, F.slot_zip_next.lookup, h⟩
theorem pi_zipN {X : Cx} {e e2 : Expr} {ta : TA} {p pos tpos : Pos} {nm : String} (hg : Gl X "zip") (hm : X.mg "zip" = none) (ha : PA X [e, e2] ta)
    (hs : starEach [e, e2] X.env = (false, eval e X.env) :: starEach [e2] X.env := by rfl) (hpl : (backTo pos (starEach [e2] X.env)).any (·.1) = false := by rfl) :
    PI X (.Name nm tpos) (.Call (.Name "zip" p) [e, e2] [] pos) (iZip X.K ta) := by
  refine ⟨fun pins s σ H R I h => ?_⟩
  refine Call_ (ld_blt I hg hm PyProof.Rows.boot_zip (PyProof.Rows.callWith_type1 (thn (ha.run pos pins s σ H _ I h) fun us s1 ⟨vs, H1, I1, r1, q1⟩ => ?_) hs hpl))
  obtain ⟨a, b, xs, ys, ex, hqx, hqy, q⟩ := q1
  subst ex
  cases r1 with
  | cons r rr =>
    cases rr with
    | cons r' rr =>
      cases rr
      cases r
      cases r'
      obtain ⟨its, rv, p1, _⟩ := I1.list hqx
      obtain ⟨its2, rv2, p2, _⟩ := I1.list hqy
      refine call_zip_2 p1.isList p2.isList fun h' hz hTI hTO h1 h2 hsz hk => wpAny_pyIter_zip hz ?_
      have I2 : Inv X pins σ H1 { s1 with heap := h' } := I1.kept (t' := s1.toks) hk
      have fr : ∀ c, c ∈ [s1.heap.objs.size + 4, s1.heap.objs.size + 2, s1.heap.objs.size + 3, s1.heap.objs.size, s1.heap.objs.size + 1] → FpOk X pins H1 c := fun c hcm => by
        have le : s1.heap.objs.size ≤ c := by
          rcases (show c = s1.heap.objs.size + 4 ∨ c = s1.heap.objs.size + 2 ∨ c = s1.heap.objs.size + 3 ∨ c = s1.heap.objs.size ∨ c = s1.heap.objs.size + 1 by simpa using hcm) with z | z | z | z | z <;> omega
        exact I1.fpOk le (I1.hok.fresh le)
      exact ⟨s1.heap.objs.size + 4, [s1.heap.objs.size + 4, s1.heap.objs.size + 2, s1.heap.objs.size + 3, s1.heap.objs.size, s1.heap.objs.size + 1], _, _, H1, rfl, I2, turn_zipN (PySem.W.ktu_apart s1.heap.objs.size a b p1.lt p2.lt), ⟨.inl hz, hTI, ⟨_, _, hTO⟩, h1, h2⟩, fr, q⟩
end Hl
end PRl5

section PHl11
set_option Elab.async false
set_option linter.all false
set_option maxRecDepth 100000
set_option maxHeartbeats 2000000
local macro_rules | `(tactic| walk_at "ev") => `(tactic| (first
  | exact Evl.ev_c
  | exact Evl.ev_var rfl
  | (apply Hl.ev_I0 <;> walk_at "ev")
  | (apply Hl.ev_I <;> walk_at "ev")
  | (apply Hl.ev_ixT <;> walk_at "ev")
  | (apply Hl.ev_ixL <;> walk_at "ev")
  | exact Evl.ea_nil
  | (apply Evl.ea_cons <;> walk_at "ev")
  | (apply Hl.ev_callV <;> first | assumption | walk_at "ev")
  | (apply Hl.ev_eq <;> walk_at "ev")
  | (apply Hl.ev_ne <;> walk_at "ev")
  | (apply Hl.ev_fld <;> first | assumption | walk_at "ev")
  | (apply Hl.ev_lenL <;> first | assumption | walk_at "ev")
  | (apply Hl.ev_chain <;> first | (refine fun (_ : _ = _) => ?_; walk_at "ev") | walk_at "ev")
  | (apply Evl.ev_orV <;> first | (refine fun (_ : _ = _) => ?_; walk_at "ev") | walk_at "ev")
  | (apply Evl.ev_andV <;> first | (refine fun (_ : _ = _) => ?_; walk_at "ev") | walk_at "ev")
  | (apply Evl.ev_notV <;> walk_at "ev")
  | (apply Evl.et_test <;> walk_at "ev")
  | (apply Evl.et_B <;> walk_at "ev")
  | (apply Evl.et_not <;> walk_at "ev")
  | (apply Evl.et_and <;> first | (refine fun (_ : _ = _) => ?_; walk_at "ev") | walk_at "ev")
  | (apply Evl.et_or <;> first | (refine fun (_ : _ = _) => ?_; walk_at "ev") | walk_at "ev")
  | assumption
  | (exact Evl.st_of (by assumption))
  | exact rfl
  | skip))

namespace Hl
open PySem PySem.Spec PyProof.Rows L2 Evl
open GlaPlan (Pt Plan)
/-! ### sums round -/
def cs (g : Pt → Pt → Int) : Pt → List Pt → Int
  | _, [] => 0
  | b, c :: r => g b c + cs g c r
def bef (z : Pt) (l : List Pt) : Pt := l.getLast?.getD z
def csum (g : Pt → Pt → Int) (ps : List Pt) : Int := cs g (bef ⟨0, 0⟩ ps) ps
theorem bef_snoc (z : Pt) (l : List Pt) (c : Pt) : bef z (l ++ [c]) = c := by simp [bef]
theorem bef_cons (z a : Pt) (l : List Pt) : bef z (a :: l) = bef a l := by
  cases l with
  | nil => rfl
  | cons b r => rw [bef, bef, List.getLast?_cons_cons]; rw [List.getLast?_cons, Option.getD_some, Option.getD_some]
theorem cs_snoc (g : Pt → Pt → Int) : ∀ (l : List Pt) (z c : Pt), cs g z (l ++ [c]) = cs g z l + g (bef z l) c
  | [], z, c => by simp [cs, bef]
  | a :: r, z, c => by
    rw [List.cons_append, cs, cs_snoc g r a c, cs, bef_cons]; omega
theorem tot_zip (S : Plan) (g : Pt → Pt → Int) : ∀ (r : List Nat) (a b : Nat), Geo.tot (fun x : Nat × Nat => g (S.pt x.1) (S.pt x.2)) ((a :: r).zip (r ++ [b])) = cs g (S.pt a) (r.map S.pt) + g (bef (S.pt a) (r.map S.pt)) (S.pt b)
  | [], a, b => by simp [Geo.tot, cs, bef]
  | c :: r, a, b => by
    rw [List.cons_append, List.zip_cons_cons, Geo.tot, tot_zip S g r c b, List.map_cons, cs, bef_cons]
    simp only []
    omega
theorem csum_cp (S : Plan) (g : Pt → Pt → Int) (l : List Nat) : csum g (l.map S.pt) = Geo.tot (fun x : Nat × Nat => g (S.pt x.1) (S.pt x.2)) (Geo.cp l) := by
  cases l with
  | nil => rfl
  | cons a r =>
    rw [Geo.cp]
    have := tot_zip S g r a a
    rw [show (a :: r).drop 1 ++ (a :: r).take 1 = r ++ [a] from rfl, this, csum, List.map_cons, cs, bef_cons]; omega
def arP (p q : Pt) : Int := (p.x : Int) * (q.y : Int) - (p.y : Int) * (q.x : Int)
theorem area_csum (S : Plan) (l : List Nat) : csum arP (l.map S.pt) = GlaPlan.twiceArea S l := by
  rw [csum_cp, Geo.area_eq]
  congr 1
  funext x
  rw [arP, Int.mul_comm ((S.pt x.1).y : Int)]
def sgP (z p q : Pt) : Int := (if p.y ≤ z.y ∧ z.y < q.y ∧ 0 < GlaPlan.turn p q z then 1 else 0) - (if q.y ≤ z.y ∧ z.y < p.y ∧ GlaPlan.turn p q z < 0 then 1 else 0)
theorem sg_csum (S : Plan) (z : Pt) (l : List Nat) : csum (sgP z) (l.map S.pt) = Geo.tot (Geo.sg S z) (Geo.cp l) := by
  rw [csum_cp]
  congr 1
  funext x
  rw [sgP, Geo.sg]
  by_cases h1 : (S.pt x.1).y ≤ z.y ∧ z.y < (S.pt x.2).y ∧ 0 < GlaPlan.turn (S.pt x.1) (S.pt x.2) z
  · rw [if_pos h1, if_pos h1, if_neg (by omega)]; rfl
  · rw [if_neg h1, if_neg h1]
    by_cases h2 : (S.pt x.2).y ≤ z.y ∧ z.y < (S.pt x.1).y ∧ GlaPlan.turn (S.pt x.1) (S.pt x.2) z < 0
    · rw [if_pos h2, if_pos h2]; rfl
    · rw [if_neg h2, if_neg h2]; rfl
theorem bef_get {ps : List Pt} (h : ps ≠ []) (z : Pt) : ps[ps.length - 1]? = some (bef z ps) := by
  rw [bef, ← List.getLast?_eq_getElem?]
  cases e : ps.getLast? with
  | none => exact absurd (List.getLast?_eq_none_iff.1 e) h
  | some x => rfl
theorem atI_last {us : List V} {v : V} (h : us[us.length - 1]? = some v) (h0 : us ≠ []) : atI us (-1) = some v := by
  have : ixN us.length (-1) = some (us.length - 1) := by
    have hp : 0 < us.length := List.length_pos_iff.2 h0
    unfold ixN
    rw [if_neg (by decide), if_pos (by omega)]
    congr 1; omega
  rw [atI, this]; exact h
section
variable {P : Program} {w : World} {K : PySem.W.Frag} {mg : Str → Option Value} {base : Heap} {C : Addr}
def Acn (K : PySem.W.Frag) : List V → Hp → V → Prop := fun vs H v => ∃ (x : V) (ps : List Pt), vs = [x] ∧ isL K (isPt K) ps x H ∧ ps ≠ [] ∧ v = .int (csum arP ps)
theorem Acn.mono : Mono (Acn K) := fun vs H H' v e ⟨x, ps, h0, h1, h2⟩ => ⟨x, ps, h0, h1.mono monoPt e, h2⟩
theorem Its.last {us : List V} {ps : List Pt} {H : Hp} (h : Its (isPt K) ps us H) (h0 : ps ≠ []) (z : Pt) : ∃ v, atI us (-1) = some v ∧ isPt K (bef z ps) v H := by
  obtain ⟨v, hv, r⟩ := h.2 _ _ (bef_get h0 z)
  rw [← h.1] at hv
  refine ⟨v, atI_last hv ?_, r⟩
  rintro rfl
  have := h.1
  exact h0 (List.length_eq_zero_iff.1 this.symm)
theorem Its.fix {α : Type} {R : α → V → Hp → Prop} {xs : List α} {us : List V} {H H' : Hp} (h : Its R xs us H) : Its (fun x v _ => R x v H) xs us H' := ⟨h.1, h.2⟩
abbrev s_twice_area : Stmt := topS 54
abbrev N_twice_area : List Str := ["corners", "area", "before", "corner"]
theorem sc_twice_area : FnScope N_twice_area ["corners"] (defScope s_twice_area) := ⟨rfl, rfl, rfl, by decide +kernel, rfl, by decide +kernel, by decide +kernel⟩
theorem k_twice_area (F : Dfn K mg "twice_area" s_twice_area ["corners"]) : Cal P w K mg base 1 "twice_area" (spV (Acn K)) := by
  refine mk_V F sc_twice_area (fun vs H v h => by obtain ⟨_, _, rfl, _⟩ := h; rfl) (fun f cdv A' outer s H vs E v hr a => ?_)
  obtain ⟨x, ps, rfl, ⟨l, us, rfl, hl, il⟩, h0, rfl⟩ := a
  obtain ⟨v0, hv0, i0⟩ := il.last h0 ⟨0, 0⟩
  have hz : csum arP ps = cs arP (bef ⟨0, 0⟩ ps) ps := rfl
  rw [hz]
  refine ⟨_, (pss_cons (ps_set (i := 1) sc_twice_area.nd rfl (Or.inl rfl) pe_int)
      (pss_cons (ps_set (i := 2) sc_twice_area.nd rfl (Or.inl rfl) (pe_ix ix_list (pv 0) (pe_un un_neg pe_int) (fun _ _ => rfl)))
      (pss_cons (ps_for PassesOwn.never rfl (pi_list (pv 0)) (pg_name (i := 3) sc_twice_area.nd rfl (Or.inl rfl))
        (pss_cons (ps_aug (i := 1) sc_twice_area.nd rfl (Or.inl rfl) (pe_op op_sub (pe_op op_mul (pe_ix ix_tup (pv 2) pe_int (fun _ _ => rfl)) (pe_ix ix_tup (pv 3) pe_int (fun _ _ => rfl))) (pe_op op_mul (pe_ix ix_tup (pv 2) pe_int (fun _ _ => rfl)) (pe_ix ix_tup (pv 3) pe_int (fun _ _ => rfl)))) ip_add)
      (pss_one (ps_set (i := 2) sc_twice_area.nd rfl (Or.inl rfl) (pv 3)))))
      (pss_one (ps_ret (pv 1)))))), fun Q kq => ?_⟩
  generalize bef ⟨0, 0⟩ ps = z at *
  apply q_asg
  · exact ev_c
  · intro H1 e1
    have hl1 := ex_l e1 hl
    apply q_asg (v := v0)
    · exact ev_ixL (ev_var rfl) (ev_un ev_c ru_neg) hl1 hv0
    · intro H2 e2
      have hl2 := ex_l e2 hl1
      have e02 := e1.trans e2
      apply q_listS (R := fun c v _ => isPt K c v H2) (a := l) (us := us) (xs := ps) (fun _ _ _ _ _ h => h) (ev_var rfl) hl2 (il.mono monoPt e02).fix (fun i σ' => ∃ v o, isPt K (bef z (ps.take i)) v H2 ∧ σ' = [some (.ref l), some (.int (cs arP z (ps.take i))), some v, o])
      · exact ⟨v0, none, i0.mono e02, rfl⟩
      · rintro i c v σ' H3 hc e3 iv ⟨b, o, ib, rfl⟩
        have et : ps.take (i + 1) = ps.take i ++ [c] := by rw [List.take_add_one, hc]; rfl
        rw [et, cs_snoc, bef_snoc]
        obtain ⟨pb, ab, rfl, hb⟩ := ib.mono e3
        have iv' : isPt K c v H2 := iv
        obtain ⟨pc, ac, rfl, hc2⟩ := iv'.mono e3
        apply q_aug (a := cs arP z (ps.take i)) (b := arP (bef z (ps.take i)) c) rfl
        · refine ev_is (v := .int (((bef z (ps.take i)).x : Int) * (c.y : Int) - ((bef z (ps.take i)).y : Int) * (c.x : Int))) ?_ rfl
          walk_at "ev"
          · exact cmul_s (by omega)
          · exact cmul_s (by omega)
        · intro H4 e4
          apply s_asg
          · exact ev_var rfl
          · intro H5 e5
            exact ⟨⟨_, _, iv', rfl⟩, (e3.trans e4).trans e5⟩
      · rintro σ' H3 ⟨b, o, ib, rfl⟩ e3
        rw [List.take_length]
        apply s_ret
        · exact ev_var rfl
        · exact fun H4 e4 => kq H4 ((e02.trans e3).trans e4)
/-! ### in a pane -/
section
variable {σ : L2.St} {H : Hp} {te : TE} {t : TT} {D : Ends} {tz : TS}
theorem set_self {i : Nat} {v : Option V} (h : σ[i]? = some v) : σ.set i v = σ := by
  obtain ⟨h1, h2⟩ := List.getElem?_eq_some_iff.1 h
  rw [← h2]; exact List.set_getElem_self h1
theorem q_whenAug {b : Bool} {i : Nat} {f : Int → Int → Int} {a c : Int} (hx : σ[i]? = some (some (.int a))) (h : EvT t σ H b) (hc : Ev te σ H (.int c)) (k : ∀ H1, Ex H H1 → tz D (σ.set i (some (.int (if b = true then f a c else a)))) H1) : tSeq (tIfS t (tAug i te (ipI f)) tNext) tz D σ H :=
  q_when h (fun hb H1 e1 => s_aug (D := { D with nx := tz D }) hx (hc.mono e1) fun H2 e2 => by
    have g := k H2 (e1.trans e2)
    rw [if_pos hb] at g; exact g) (fun hb H1 e1 => by
    have g := k H1 e1
    rw [if_neg (by rw [hb]; exact Bool.false_ne_true), set_self hx] at g; exact g)
end
def Asr (K : PySem.W.Frag) : List V → Hp → V → Prop := fun vs H v => ∃ (x y : V) (ps : List Pt) (m : Pt), vs = [x, y] ∧ isL K (isPt K) ps x H ∧ isPt K m y H ∧ ps ≠ [] ∧ v = .bl (decide (csum (sgP m) ps ≠ 0))
theorem Asr.mono : Mono (Asr K) := fun vs H H' v e ⟨x, y, ps, m, h0, h1, h2, h3⟩ => ⟨x, y, ps, m, h0, h1.mono monoPt e, h2.mono e, h3⟩
abbrev s_surrounds : Stmt := topS 56
abbrev N_surrounds : List Str := ["corners", "mark", "rounds", "before", "corner"]
theorem sc_surrounds : FnScope N_surrounds ["corners", "mark"] (defScope s_surrounds) := ⟨rfl, rfl, rfl, by decide +kernel, rfl, by decide +kernel, by decide +kernel⟩
theorem k_surrounds (F : Dfn K mg "surrounds" s_surrounds ["corners", "mark"]) (c_turn : Cal P w K mg base 1 "turn" (spV (A3 K fun p q r => .int (GlaPlan.turn p q r)))) : Cal P w K mg base 2 "surrounds" (spV (Asr K)) := by
  refine mk_V F sc_surrounds (fun vs H v h => by obtain ⟨_, _, _, _, rfl, _⟩ := h; rfl) (fun f cdv A' outer s H vs E v hr a => ?_)
  obtain ⟨x, y, ps, m, rfl, ⟨l, us, rfl, hl, il⟩, im, h0, rfl⟩ := a
  obtain ⟨v0, hv0, i0⟩ := il.last h0 ⟨0, 0⟩
  have hz : csum (sgP m) ps = cs (sgP m) (bef ⟨0, 0⟩ ps) ps := rfl
  rw [hz]
  have m1 : Mono (A3 K fun p q r => .int (GlaPlan.turn p q r)) := A3.mono
  refine ⟨_, (pss_cons (ps_set (i := 2) sc_surrounds.nd rfl (Or.inl rfl) pe_int)
      (pss_cons (ps_set (i := 3) sc_surrounds.nd rfl (Or.inl rfl) (pe_ix ix_list (pv 0) (pe_un un_neg pe_int) (fun _ _ => rfl)))
      (pss_cons (ps_for PassesOwn.never rfl (pi_list (pv 0)) (pg_name (i := 4) sc_surrounds.nd rfl (Or.inl rfl))
        (pss_cons (ps_if (PW.pt (pw_and (pt_chain op_le op_lt (pe_ix ix_tup (pv 3) pe_int (fun _ _ => rfl)) (pe_ix ix_tup (pv 1) pe_int (fun _ _ => rfl)) (pe_ix ix_tup (pv 4) pe_int (fun _ _ => rfl))) (pw_and1 (pt_cmpR op_gt (pe_c c_turn hr (by decide) (by rfl) (pa_cons (pv 3) (pa_cons (pv 4) (pa_cons (pv 1) pa_nil)))) pe_int (nomark _))))) (pss_one (ps_aug (i := 2) sc_surrounds.nd rfl (Or.inl rfl) pe_int ip_add)) pss_nil)
      (pss_cons (ps_if (PW.pt (pw_and (pt_chain op_le op_lt (pe_ix ix_tup (pv 4) pe_int (fun _ _ => rfl)) (pe_ix ix_tup (pv 1) pe_int (fun _ _ => rfl)) (pe_ix ix_tup (pv 3) pe_int (fun _ _ => rfl))) (pw_and1 (pt_cmpR op_lt (pe_c c_turn hr (by decide) (by rfl) (pa_cons (pv 3) (pa_cons (pv 4) (pa_cons (pv 1) pa_nil)))) pe_int (nomark _))))) (pss_one (ps_aug (i := 2) sc_surrounds.nd rfl (Or.inl rfl) pe_int ip_sub)) pss_nil)
      (pss_one (ps_set (i := 3) sc_surrounds.nd rfl (Or.inl rfl) (pv 4))))))
      (pss_one (ps_ret (pe_cmpR op_ne (pv 2) pe_int (nomark _))))))), fun Q kq => ?_⟩
  generalize bef ⟨0, 0⟩ ps = z at *
  apply q_asg
  · exact ev_c
  · intro H1 e1
    have hl1 := ex_l e1 hl
    apply q_asg (v := v0)
    · exact ev_ixL (ev_var rfl) (ev_un ev_c ru_neg) hl1 hv0
    · intro H2 e2
      have hl2 := ex_l e2 hl1
      have e02 := e1.trans e2
      apply q_listS (R := fun c v _ => isPt K c v H2) (a := l) (us := us) (xs := ps) (fun _ _ _ _ _ h => h) (ev_var rfl) hl2 (il.mono monoPt e02).fix (fun i σ' => ∃ v o, isPt K (bef z (ps.take i)) v H2 ∧ σ' = [some (.ref l), some y, some (.int (cs (sgP m) z (ps.take i))), some v, o])
      · exact ⟨v0, none, i0.mono e02, rfl⟩
      · rintro i c v σ' H3 hc e3 iv ⟨b, o, ib, rfl⟩
        have et : ps.take (i + 1) = ps.take i ++ [c] := by rw [List.take_add_one, hc]; rfl
        rw [et, cs_snoc, bef_snoc]
        have ib3 := ib.mono e3
        have iv' : isPt K c v H2 := iv
        have iv3 := iv'.mono e3
        have im3 := im.mono (e02.trans e3)
        generalize hbb : bef z (ps.take i) = bb at *
        have a1 : A3 K (fun p q r => .int (GlaPlan.turn p q r)) [b, v, y] H3 (.int (GlaPlan.turn bb c m)) := ⟨_, _, _, _, _, _, rfl, ib3, iv3, im3, rfl⟩
        obtain ⟨pb, ab, eb, hb⟩ := ib3
        obtain ⟨pc, ac, ec, hc2⟩ := iv3
        obtain ⟨pm, am, em, hm⟩ := im3
        generalize hw : cs (sgP m) z (ps.take i) = acc at *
        obtain rfl := eb
        obtain rfl := ec
        obtain rfl := em
        apply q_whenAug (a := acc) (c := 1) (b := decide (bb.y ≤ m.y ∧ m.y < c.y ∧ 0 < GlaPlan.turn bb c m)) rfl
        · refine et_is (a := (decide ((bb.y : Int) ≤ (m.y : Int)) && decide ((m.y : Int) < (c.y : Int))) && decide (GlaPlan.turn bb c m > 0)) ?_ (by rw [Bool.eq_iff_iff]; simp; omega)
          walk_at "ev"
        · exact ev_c
        intro H4 e4
        replace a1 := m1 _ _ _ _ e4 a1
        replace hb := ex_t e4 hb
        replace hc2 := ex_t e4 hc2
        replace hm := ex_t e4 hm
        apply q_whenAug (a := if decide (bb.y ≤ m.y ∧ m.y < c.y ∧ 0 < GlaPlan.turn bb c m) = true then acc + 1 else acc) (c := 1) (b := decide (c.y ≤ m.y ∧ m.y < bb.y ∧ GlaPlan.turn bb c m < 0)) rfl
        · refine et_is (a := (decide ((c.y : Int) ≤ (m.y : Int)) && decide ((m.y : Int) < (bb.y : Int))) && decide (GlaPlan.turn bb c m < 0)) ?_ (by rw [Bool.eq_iff_iff]; simp; omega)
          walk_at "ev"
        · exact ev_c
        intro H5 e5
        apply s_asg
        · exact ev_var rfl
        · intro H6 e6
          refine ⟨⟨.ref ac, some (.ref ac), iv', ?_⟩, ((e3.trans e4).trans e5).trans e6⟩
          simp only [List.set, decide_eq_true_eq]
          congr 4
          rw [sgP]
          split <;> split <;> simp <;> omega
      · rintro σ' H3 ⟨b, o, ib, rfl⟩ e3
        rw [List.take_length]
        apply s_ret
        · refine ev_is (v := .bl (!decide (V.int (cs (sgP m) z ps) = .int 0))) (w := .bl (decide (cs (sgP m) z ps ≠ 0))) ?_ (by congr 1; rw [Bool.eq_iff_iff]; simp)
          walk_at "ev"
        · exact fun H4 e4 => kq H4 ((e02.trans e3).trans e4)
end
end Hl
end PHl11

section PRl6
set_option Elab.async false
set_option linter.all false
set_option maxRecDepth 100000
set_option maxHeartbeats 2000000
namespace Hl
open PySem PySem.Spec PyProof.Rows L2 Evl
/-! ### a heap but for one thing -/
def del (H : Hp) (g : Addr) : Hp := fun b => if b = g then none else H b
theorem del_at {H : Hp} {g : Addr} : del H g g = none := if_pos rfl
theorem del_ne {H : Hp} {g b : Addr} (h : b ≠ g) : del H g b = H b := if_neg h
theorem del_ex {H : Hp} {g : Addr} : Ex (del H g) H := fun a o h => by
  by_cases e : a = g
  · rw [e, del_at] at h; cases h
  · rw [del_ne e] at h; exact h
theorem ex_del {H0 H : Hp} {g : Addr} (e : Ex H0 H) (n : H0 g = none) : Ex H0 (del H g) := fun a o h => by
  rw [del_ne (ne_of_none h n)]; exact e a o h
theorem del_none {H : Hp} {g b : Addr} (h : H b = none) : del H g b = none := by
  by_cases e : b = g
  · rw [e]; exact del_at
  · rw [del_ne e]; exact h
/-! ### dicts by pairs of numbers -/
def kP (p : Nat × Nat) : List Key := [.inl (p.1 : Int), .inl (p.2 : Int)]
theorem kP_inj {p q : Nat × Nat} (h : kP p = kP q) : p = q := by
  unfold kP at h
  injection h with h1 h2
  injection h2 with h2 _
  injection h1 with h1
  injection h2 with h2
  exact Prod.ext (by omega) (by omega)
def isDT (H : Hp) (g : Addr) (f : Nat × Nat → Option V) : Prop := ∃ kvs : List (List Key × V), H g = some (.dT kvs) ∧ (∀ p, valV kvs (kP p) = f p) ∧ (kvs.map (·.1)).Nodup ∧ ∀ k ∈ kvs.map (·.1), ∃ p, k = kP p
theorem isDT.mono {H H' : Hp} {g : Addr} {f : Nat × Nat → Option V} (e : Ex H H') (h : isDT H g f) : isDT H' g f := by
  obtain ⟨kvs, h1, h2⟩ := h
  exact ⟨kvs, e _ _ h1, h2⟩
theorem isDT.nil {H : Hp} {g : Addr} (h : H g = some (.dT [])) : isDT H g fun _ => none := ⟨[], h, fun _ => rfl, List.Pairwise.nil, fun _ h => nomatch h⟩
theorem isDT.get {H : Hp} {g b : Addr} {f : Nat × Nat → Option V} {p : Nat × Nat} (h : isDT H g f) (hb : H b = some (.tup [.int p.1, .int p.2])) : DGet H g (.ref b) (f p) := by
  obtain ⟨kvs, h1, h2, _⟩ := h
  rw [← h2 p]
  exact DGet.t h1 hb
theorem keys_put {κ : Type} [DecidableEq κ] (kvs : List (κ × V)) (k : κ) (v : V) : (putK kvs k v).map (·.1) = if (valV kvs k).isSome = true then kvs.map (·.1) else kvs.map (·.1) ++ [k] := by
  unfold putK
  rw [valV_any]
  by_cases h : (valV kvs k).isSome = true
  · rw [if_pos h, if_pos h, List.map_map]
    apply List.map_congr_left
    intro x _
    show (if x.1 = k then (x.1, v) else x).1 = x.1
    split <;> rfl
  · rw [if_neg h, if_neg h, List.map_append]; rfl
theorem isDT.len {H : Hp} {g : Addr} {f : Nat × Nat → Option V} {kvs : List (List Key × V)} (h2 : ∀ p, valV kvs (kP p) = f p) (h3 : (kvs.map (·.1)).Nodup) (h4 : ∀ k ∈ kvs.map (·.1), ∃ p, k = kP p) (m : List (Nat × Nat)) (hm : ∀ p, (f p).isSome = true → p ∈ m) : kvs.length ≤ m.length := by
  have : (kvs.map (·.1)).length ≤ (m.map kP).length := by
    refine Geo.sub_len h3 fun k hk => ?_
    obtain ⟨p, rfl⟩ := h4 k hk
    refine List.mem_map.2 ⟨p, hm p ?_, rfl⟩
    rw [← h2 p]
    cases e : valV kvs (kP p) with
    | some _ => rfl
    | none => exact absurd hk (valV_not e)
  simpa using this
theorem isDT.put {H : Hp} {g b : Addr} {f : Nat × Nat → Option V} {p : Nat × Nat} (v : V) (h : isDT H g f) (hb : H b = some (.tup [.int p.1, .int p.2])) (m : List (Nat × Nat)) (hm : ∀ p, (f p).isSome = true → p ∈ m) (hz : m.length < 1000000) :
    ∃ ob, DPut H g (.ref b) v (upd H g ob) ∧ isDT (upd H g ob) g fun q => if q = p then some v else f q := by
  obtain ⟨kvs, h1, h2, h3, h4⟩ := h
  have hl : kvs.length < sizeLine := Nat.lt_of_le_of_lt (isDT.len (H := H) (g := g) h2 h3 h4 m hm) (Nat.lt_of_lt_of_le hz (by decide))
  refine ⟨.dT (putK kvs (kP p) v), DPut.t h1 hb hl, putK kvs (kP p) v, upd_same, fun q => ?_, ?_, ?_⟩
  · rw [valV_put, h2 q]
    show _ = if q = p then some v else f q
    by_cases e : q = p
    · rw [e, if_pos rfl, if_pos rfl]
    · rw [if_neg e, if_neg fun z => e (kP_inj z)]
  · rw [keys_put]
    split
    · exact h3
    · rename_i hn
      rw [List.nodup_append]
      refine ⟨h3, by simp, fun a ha c hc => ?_⟩
      rw [List.mem_singleton.1 hc]
      rintro rfl
      refine valV_not ?_ ha
      cases e : valV kvs (kP p) with
      | none => rfl
      | some _ => rw [e] at hn; exact absurd rfl hn
  · intro k hk
    rw [keys_put] at hk
    split at hk
    · exact h4 k hk
    · rcases List.mem_append.1 hk with z | z
      · exact h4 k z
      · exact ⟨p, List.mem_singleton.1 z⟩
section
variable {K : PySem.W.Frag} {σ : L2.St} {H H' : Hp} {ta tb td te tv ty : TE} {v : V} {D : Ends} {tu tz : TS}
theorem ef_dnewT : EvF tDNewT σ H (fun p H' => H' p = some (.dT [])) := fun H1 e Q q p hp => q p _ hp (Ex.new hp) upd_same
theorem ev_dnotin {g b : Addr} {f : Nat × Nat → Option V} {p : Nat × Nat} (hy : Ev ty σ H (.ref b)) (hd : Ev td σ H (.ref g)) (h : isDT H g f) (hb : H b = some (.tup [.int p.1, .int p.2])) : Ev (tDNotIn ty td) σ H (.bl (!(f p).isSome)) := fun H1 e1 Q q =>
  hy H1 e1 _ fun H2 e2 => hd H2 (e1.trans e2) _ fun H3 e3 => ⟨g, f p, rfl, (h.mono ((e1.trans e2).trans e3)).get (((e1.trans e2).trans e3) _ _ hb), q H3 (e2.trans e3)⟩
theorem ev_din {g b : Addr} {f : Nat × Nat → Option V} {p : Nat × Nat} (hy : Ev ty σ H (.ref b)) (hd : Ev td σ H (.ref g)) (h : isDT H g f) (hb : H b = some (.tup [.int p.1, .int p.2])) : Ev (tDIn ty td) σ H (.bl (f p).isSome) := fun H1 e1 Q q =>
  hy H1 e1 _ fun H2 e2 => hd H2 (e1.trans e2) _ fun H3 e3 => ⟨g, f p, rfl, (h.mono ((e1.trans e2).trans e3)).get (((e1.trans e2).trans e3) _ _ hb), q H3 (e2.trans e3)⟩
theorem s_dput {g b : Addr} {f : Nat × Nat → Option V} {p : Nat × Nat} (m : List (Nat × Nat)) (hy : Ev ty σ H (.ref b)) (hd : Ev td σ H (.ref g)) (hv : Ev tv σ H v) (h : isDT H g f) (hb : H b = some (.tup [.int p.1, .int p.2])) (hm : ∀ p, (f p).isSome = true → p ∈ m) (hz : m.length < 1000000)
    (k : ∀ H1 ob, Ex H H1 → isDT (upd H1 g ob) g (fun q => if q = p then some v else f q) → D.nx σ (upd H1 g ob)) : sDPut td ty tv D σ H :=
  hv H (Ex.refl H) _ fun H1 e1 => hd H1 e1 _ fun H2 e2 => hy H2 (e1.trans e2) _ fun H3 e3 => by
    have e := (e1.trans e2).trans e3
    obtain ⟨ob, h1, h2⟩ := (h.mono e).put v (e _ _ hb) m hm hz
    exact ⟨g, _, rfl, h1, k H3 ob e h2⟩
theorem q_dput {g b : Addr} {f : Nat × Nat → Option V} {p : Nat × Nat} (m : List (Nat × Nat)) (hy : Ev ty σ H (.ref b)) (hd : Ev td σ H (.ref g)) (hv : Ev tv σ H v) (h : isDT H g f) (hb : H b = some (.tup [.int p.1, .int p.2])) (hm : ∀ p, (f p).isSome = true → p ∈ m) (hz : m.length < 1000000)
    (k : ∀ H1 ob, Ex H H1 → isDT (upd H1 g ob) g (fun q => if q = p then some v else f q) → tz D σ (upd H1 g ob)) : tSeq (sDPut td ty tv) tz D σ H := s_dput (D := { D with nx := tz D }) m hy hd hv h hb hm hz k
/-- over zip, the pairs kept -/
theorem s_zipN {a : Addr} {xs ys : List V} {j : Nat} (ha : Ev ta σ H (.ref a)) (hq : SqL K H a xs) (hb : EvL tb σ H ys)
    (k : ∀ b H1, H b = none → Ex H H1 → H1 b = some (.lst ys) → ∃ I : Nat → L2.St → Hp → Prop, I 0 σ H1 ∧ (∀ i σ' H', I i σ' H' → SqL K H' a xs ∧ SqL K H' b ys) ∧
      (∀ i x y T σ' H', xs[i]? = some x → ys[i]? = some y → I i σ' H' → H' T = none → tu { D with nx := I (i + 1), ct := I (i + 1), bk := D.nx } (σ'.set j (some (.ref T))) (upd H' T (.tup [x, y]))) ∧
      ∀ σ' H', I (min xs.length ys.length) σ' H' → D.nx σ' H') : tFor (iZip K (tCons ta (tCons tb tNil))) (gName j) tu D σ H :=
  ha H (Ex.refl H) _ fun H1 e1 => hb H1 e1 _ fun b H2 hbn e2 hb2 => by
    obtain ⟨I, h0, hs, hstep, hend⟩ := k b H2 (fresh_back e1 hbn) (e1.trans e2) hb2
    refine ⟨a, b, xs, ys, rfl, (hs 0 σ H2 h0).1, (hs 0 σ H2 h0).2, fun i m σ H => m = min xs.length ys.length - i ∧ i ≤ min xs.length ys.length ∧ I i σ H, ⟨_, rfl, Nat.zero_le _, h0⟩, ?_⟩
    rintro i m σ H ⟨rfl, hi, p⟩
    obtain ⟨qx, qy⟩ := hs i σ H p
    by_cases hlt : i < min xs.length ys.length
    · have hx : xs[i]? = some (xs[i]'(by omega)) := List.getElem?_eq_getElem _
      have hy : ys[i]? = some (ys[i]'(by omega)) := List.getElem?_eq_getElem _
      refine .inr ⟨⟨xs, ys, _, _, qx, qy, hx, hy⟩, I (i + 1), fun σ' H' p' => ⟨_, by omega, rfl, by omega, p'⟩, fun v H' y => ?_⟩
      obtain ⟨T, x', y', rfl, hT, rfl, f1, f2⟩ := y
      exact hstep i x' y' T σ H (f1 xs qx) (f2 ys qy) p hT
    · obtain rfl : i = min xs.length ys.length := by omega
      exact .inl ⟨⟨xs, ys, qx, qy, by omega⟩, hend σ H p⟩
theorem q_zipN {a : Addr} {xs ys : List V} {j : Nat} (ha : Ev ta σ H (.ref a)) (hq : SqL K H a xs) (hb : EvL tb σ H ys)
    (k : ∀ b H1, H b = none → Ex H H1 → H1 b = some (.lst ys) → ∃ I : Nat → L2.St → Hp → Prop, I 0 σ H1 ∧ (∀ i σ' H', I i σ' H' → SqL K H' a xs ∧ SqL K H' b ys) ∧
      (∀ i x y T σ' H', xs[i]? = some x → ys[i]? = some y → I i σ' H' → H' T = none → tu { D with nx := I (i + 1), ct := I (i + 1), bk := tz D } (σ'.set j (some (.ref T))) (upd H' T (.tup [x, y]))) ∧
      ∀ σ' H', I (min xs.length ys.length) σ' H' → tz D σ' H') : tSeq (tFor (iZip K (tCons ta (tCons tb tNil))) (gName j) tu) tz D σ H := s_zipN (D := { D with nx := tz D }) ha hq hb k
end
end Hl
end PRl6

section PRl7
set_option Elab.async false
set_option linter.all false
set_option maxRecDepth 100000
namespace Hl
open PySem PySem.Spec PyProof.Rows L2 Evl
section
variable {X : Cx} {e : Expr} {ta : TE} {f : Str} {pos : Pos} {K : PySem.W.Frag}
theorem pe_fldK (hk : X.K = K) (he : PE X e ta) (hb : attributeBase e f X.env (eval e X.env) = eval e X.env) : PE X (.Attribute e f pos) (tFld K ta f) := by
  subst hk; exact pe_fld he hb
theorem ix_listK (hk : X.K = K) : IxR X (rIxL K) := by subst hk; exact ix_list
theorem ix_tupK (hk : X.K = K) : IxR X (rIxT K) := by subst hk; exact ix_tup
theorem pg_tupK {es : List Expr} {k : Nat} {t : TGs} {n : Nat} (hk : X.K = K) (hc : X.calm = true) (h : PGs X es t) (hn : (assignEach es X.env).length = n := by rfl) (hst : (assignEach es X.env).findIdx? (·.1) = none := by rfl) : PG X (.Tuple es k pos) (gTup K n t) := by
  subst hk; exact pg_tup hc h hn hst
end
end Hl
end PRl7

section PHl12
set_option Elab.async false
set_option linter.all false
set_option maxRecDepth 100000
set_option maxHeartbeats 2000000
local macro_rules | `(tactic| walk_at "ev") => `(tactic| (first
  | exact Evl.ev_c
  | exact Evl.ev_var rfl
  | (apply Hl.ev_I0 <;> walk_at "ev")
  | (apply Hl.ev_I <;> walk_at "ev")
  | (apply Hl.ev_ixT <;> walk_at "ev")
  | (apply Hl.ev_ixL <;> walk_at "ev")
  | exact Evl.ea_nil
  | (apply Evl.ea_cons <;> walk_at "ev")
  | (apply Hl.ev_callV <;> first | assumption | walk_at "ev")
  | (apply Hl.ev_eq <;> walk_at "ev")
  | (apply Hl.ev_ne <;> walk_at "ev")
  | (apply Hl.ev_fld <;> first | assumption | walk_at "ev")
  | (apply Hl.ev_lenL <;> first | assumption | walk_at "ev")
  | (apply Hl.ev_chain <;> first | (refine fun (_ : _ = _) => ?_; walk_at "ev") | walk_at "ev")
  | (apply Evl.ev_orV <;> first | (refine fun (_ : _ = _) => ?_; walk_at "ev") | walk_at "ev")
  | (apply Evl.ev_andV <;> first | (refine fun (_ : _ = _) => ?_; walk_at "ev") | walk_at "ev")
  | (apply Evl.ev_notV <;> walk_at "ev")
  | (apply Evl.et_test <;> walk_at "ev")
  | (apply Evl.et_B <;> walk_at "ev")
  | (apply Evl.et_not <;> walk_at "ev")
  | (apply Evl.et_and <;> first | (refine fun (_ : _ = _) => ?_; walk_at "ev") | walk_at "ev")
  | (apply Evl.et_or <;> first | (refine fun (_ : _ = _) => ?_; walk_at "ev") | walk_at "ev")
  | assumption
  | (exact Evl.st_of (by assumption))
  | exact rfl
  | skip))

namespace Hl
open PySem PySem.Spec PyProof.Rows L2 Evl
open GlaPlan (Pt Plan)
section
variable {σ : L2.St} {H : Hp} {ta tb : TE}
theorem el_cat {xs ys : List V} (ha : EvL ta σ H xs) (hb : EvL tb σ H ys) (hz : xs.length + ys.length ≤ 200000) : EvL (tOp rCat ta tb) σ H (xs ++ ys) := fun H1 e Q q =>
  ha H1 e _ fun a H2 ha2 e2 h2 => hb H2 (e.trans e2) _ fun b H3 hb3 e3 h3 => ⟨a, b, xs, ys, rfl, rfl, e3 _ _ h2, h3, Nat.le_trans hz (by decide), fun p hp => q p _ (fresh_back (e2.trans e3) hp) ((e2.trans e3).trans (Ex.new hp)) upd_same⟩
theorem given_all (n : Nat) (v : Nat → V) : given n (fun _ => true) v = (List.range n).map v := by
  unfold given; rw [List.filter_eq_self.2 (by simp)]
end
/-! ### the panes, line by line -/
def pstep (S : Plan) (a : List (Nat × Nat) × List (Nat × Nat)) (l : Nat × Nat) : List (Nat × Nat) × List (Nat × Nat) := if l ∈ a.1 then a else (a.1 ++ Geo.cp (Geo.orb S l), a.2 ++ [l])
theorem pfold_firsts (S : Plan) : ∀ (ls : List (Nat × Nat)) (a : List (Nat × Nat) × List (Nat × Nat)), (ls.foldl (pstep S) a).2 = a.2 ++ Geo.firsts S a.1 ls
  | [], a => by simp [Geo.firsts]
  | l :: r, a => by
    rw [List.foldl_cons, pfold_firsts S r]
    by_cases h : l ∈ a.1
    · rw [pstep, if_pos h, Geo.firsts, if_pos h]
    · rw [pstep, if_neg h, Geo.firsts, if_neg h, List.append_assoc]; rfl
def pfold (S : Plan) (ls : List (Nat × Nat)) : List (Nat × Nat) × List (Nat × Nat) := ls.foldl (pstep S) ([], [])
theorem pfold_snoc (S : Plan) (ls : List (Nat × Nat)) (l : Nat × Nat) : pfold S (ls ++ [l]) = pstep S (pfold S ls) l := by
  rw [pfold, List.foldl_append]; rfl
def rowsP (S : Plan) (es : List (Nat × Nat)) : List (List Pt) := ((es.map (Geo.orb S)).filter fun l => decide (0 < GlaPlan.twiceArea S l)).map (·.map S.pt)
theorem rowsP_snoc (S : Plan) (es : List (Nat × Nat)) (l : Nat × Nat) : rowsP S (es ++ [l]) = if 0 < GlaPlan.twiceArea S (Geo.orb S l) then rowsP S es ++ [(Geo.orb S l).map S.pt] else rowsP S es := by
  rw [rowsP, List.map_append, List.filter_append, List.map_append]
  by_cases h : 0 < GlaPlan.twiceArea S (Geo.orb S l)
  · rw [if_pos h]; simp [rowsP, h]
  · rw [if_neg h]; simp [rowsP, h]
def panesP (S : Plan) : List (List Pt) := (Geo.paneRows S).map (·.map S.pt)
theorem rowsP_all (S : Plan) : rowsP S (pfold S S.lines).2 = panesP S := by
  rw [pfold, pfold_firsts]; rfl
theorem line_da {S : Plan} (G : Geo.Good S) {l : Nat × Nat} (h : l ∈ S.lines) : Geo.Da S l := by
  show l.2 ∈ S.near l.1
  rw [Geo.mem_near G, Geo.ln_lt (G.lt l h)]; exact h
theorem zip_get {α β : Type} {xs : List α} {ys : List β} {i : Nat} {x : α} {y : β} (hx : xs[i]? = some x) (hy : ys[i]? = some y) : (xs.zip ys)[i]? = some (x, y) := by
  rw [List.getElem?_zip_eq_some]; exact ⟨hx, hy⟩
section
variable {P : Program} {w : World} {K : PySem.W.Frag} {mg : Str → Option Value} {base : Heap} {C : Addr}
def isPL (K : PySem.W.Frag) (ps : List Pt) (v : V) (H : Hp) : Prop := isL K (isPt K) ps v H
theorem monoPL : MonoR (isPL K) := fun _ _ _ _ e h => h.mono monoPt e
def Apn2 (K : PySem.W.Frag) (C : Addr) : List V → Hp → (V → Hp → Prop) → Prop := fun vs H R => ∃ (x : V) (S : Plan), vs = [x] ∧ isDr K C S x H ∧ GN S ∧ (S.pts.length ≤ 4096 ∧ S.lines.length ≤ 8192) ∧ Geo.Whole S ∧ R = isL K (isPL K) (panesP S)
theorem Apn2.mono : Mono (Apn2 K C) := fun vs H H' v e ⟨x, S, h, h1, h2⟩ => ⟨x, S, h, h1.mono e, h2⟩
abbrev s_panes_of : Stmt := topS 55
abbrev N_panes_of : List Str := ["drawing", "neighbours", "gone", "panes", "line", "outline", "way", "corners", "i"]
theorem sc_panes_of : FnScope N_panes_of ["drawing"] (defScope s_panes_of) := ⟨rfl, rfl, rfl, by decide +kernel, rfl, by decide +kernel, by decide +kernel⟩
theorem k_panes_of (T : Txt K mg) (D : DrC K C) (F : Dfn K mg "panes_of" s_panes_of ["drawing"]) (c_neighbours_of : Cal P w K mg base 1 "neighbours_of" (spR (Anb K C))) (c_outline_from : Cal P w K mg base 4 "outline_from" (spR (Aou K)))
    (c_twice_area : Cal P w K mg base 1 "twice_area" (spV (Acn K))) : Cal P w K mg base 5 "panes_of" (spR (Apn2 K C)) := by
  refine mk_R F sc_panes_of (fun vs H v h => by obtain ⟨_, _, rfl, _⟩ := h; rfl) (fun f cdv A' outer s H vs E v hr a => ?_)
  obtain ⟨x, S, rfl, id, gn, sm, wh, rfl⟩ := a
  have G := wh.toGood
  have id0 := id
  obtain ⟨a, dx, fs, vp, vl, vm, rfl, h2, f1, f2, f3, f4, f5, ⟨lp, us, rfl, hp, ip⟩, ⟨ll, ul, rfl, hl, il⟩, im⟩ := id
  have cl := D.cl
  have n3 := D.n3
  have n4 := D.n4
  have m1 : Mono (Acn K) := Acn.mono
  refine ⟨_, (pss_cons (ps_set (i := 1) sc_panes_of.nd rfl (Or.inl rfl) (pe_c c_neighbours_of hr (by decide) (by rfl) (pa_cons (pv 0) pa_nil)))
      (pss_cons (ps_set (i := 2) sc_panes_of.nd rfl (Or.inl rfl) pe_dnewT)
      (pss_cons (ps_set (i := 3) sc_panes_of.nd rfl (Or.inl rfl) (pe_lst pa_nil))
      (pss_cons (ps_for PassesOwn.never rfl (pi_list (pe_fld (pv 0) rfl)) (pg_name (i := 4) sc_panes_of.nd rfl (Or.inl rfl))
        (pss_one (ps_if (pt_cmp (pc_dnotin (hu_of hr) (pv 4) (pv 2)) rfl) (pss_cons (ps_set (i := 5) sc_panes_of.nd rfl (Or.inl rfl) (pe_c c_outline_from hr (by decide) (by rfl) (pa_cons (pe_fld (pv 0) rfl) (pa_cons (pv 1) (pa_cons (pe_ix ix_tup (pv 4) pe_int (fun _ _ => rfl)) (pa_cons (pe_ix ix_tup (pv 4) pe_int (fun _ _ => rfl)) pa_nil))))))
      (pss_cons (ps_for PassesOwn.never rfl (pi_zipN (by rfl) T.zip (pa_cons (pv 5) (pa_cons (pe_op op_cat (pe_slice sl_list (pv 5) (po_some pe_int) po_none) (pe_slice sl_list (pv 5) po_none (po_some pe_int))) pa_nil))) (pg_name (i := 6) sc_panes_of.nd rfl (Or.inl rfl))
        (pss_one (ps_dput (hu_of hr) (pv 2) (pv 6) pe_bl rfl)))
      (pss_cons (ps_setLc (i := 7) (own := [("i", 8)]) (by rfl) sc_panes_of.nd rfl rfl (sw_true rfl rfl rfl (by decide +kernel)) (pi_list (pv 5)) (blkOk_by (own := [("i", 8)]) (N := N_panes_of) (sc := defScope s_panes_of) (by decide +kernel)) (fun _ _ _ _ _ => (pg_name (i := 8) sc_panes_of.nd rfl (Or.inl rfl))) (fun _ _ _ _ _ => pts_nil) (fun _ _ _ _ _ => (pe_ix (ix_listK (K := K) rfl) (pe_fldK (K := K) rfl (pv 0) rfl) (pv 8) (fun _ _ => rfl))))
      (pss_one (ps_if (pt_cmpR op_gt (pe_c c_twice_area hr (by decide) (by rfl) (pa_cons (pv 7) pa_nil)) pe_int (nomark _)) (pss_one (ps_expr (pe_bm PySem.F.plainAttrs_list PySem.F.slot_list_append PySem.F.type_list_append mt_append (pv 3) (pa_cons (pv 7) pa_nil)))) pss_nil))))) pss_nil)))
      (pss_one (ps_ret (pv 3))))))), fun Q kq => ?_⟩
  apply q_asgR
  · exact er_callR Anb.mono (by walk_at "ev") ⟨_, S, rfl, id0, gn, rfl⟩
  · intro N H1 e1 iN
    apply q_asgF ef_dnewT
    intro g H2 hg e2 hg2
    apply q_asgL (xs := []) (el_lst ea_nil (by simp))
    intro p H3 hp3 e3 hp33
    have ngp : p ≠ g := fun z => by rw [z, hg2] at hp3; cases hp3
    have hbg : H1 g = none := hg
    have hbp : H1 p = none := by
      cases q : H1 p with
      | none => rfl
      | some o => rw [e2 _ _ q] at hp3; cases hp3
    have e13 := e2.trans e3
    have h23 := (e1.trans e13) _ _ h2
    -- the loop
    refine q_forLn (a := ll) (xs := ul) ?_ (ex_l (e1.trans e13) hl)
      (fun i σ' H' => ∃ (Hf : Hp) (vs : List V) (o4 o5 o6 o7 o8 : Option V), Hf g = none ∧ Hf p = none ∧ Ex H1 Hf ∧ Ex Hf H' ∧
        isDT H' g (fun q => if q ∈ (pfold S (S.lines.take i)).1 then some (.bl true) else none) ∧ (∀ q ∈ (pfold S (S.lines.take i)).1, Geo.Da S q) ∧ H' p = some (.lst vs) ∧ vs.length ≤ i ∧
        Its (isPL K) (rowsP S (pfold S (S.lines.take i)).2) vs Hf ∧ σ' = [some (.ref a), some N, some (.ref g), some (.ref p), o4, o5, o6, o7, o8]) ?_ ?_ ?_ ?_
    · walk_at "ev"
    · intro H4 e4
      refine ⟨H1, [], none, none, none, none, none, hbg, hbp, Ex.refl _, e13.trans e4, ?_, by intro q hq; exact absurd hq (by simp [pfold]), e4 _ _ hp33, Nat.zero_le _, ?_, rfl⟩
      · have := isDT.nil ((e3.trans e4) _ _ hg2)
        simpa [pfold] using this
      · exact Its.nil
    · rintro i σ' H' hi ⟨Hf, vs, o4, o5, o6, o7, o8, q1, q2, q3, q4, q5⟩
      exact ex_l ((e1.trans q3).trans q4) hl
    · rintro i u σ' H4 hu ⟨Hf, vs, o4, o5, o6, o7, o8, q1, q2, q3, q4, q5, q6, q7, q8, q9, rfl⟩
      obtain ⟨l, hx, il2⟩ := il.get hu
      have hil : i < S.lines.length := (List.getElem?_eq_some_iff.1 hx).1
      have hlm : l ∈ S.lines := List.mem_of_getElem? hx
      have et : S.lines.take (i + 1) = S.lines.take i ++ [l] := by rw [List.take_add_one, hx]; rfl
      have ef := e1.trans q3
      have e04 := ef.trans q4
      obtain ⟨bl, rfl, hbl⟩ := il2
      have hbl4 := e04 _ _ hbl
      rw [et, pfold_snoc]
      generalize hpf : pfold S (S.lines.take i) = pf at *
      obtain ⟨had, es⟩ := pf
      simp only at q5 q6 q9 ⊢
      apply s_when (b := !((fun q => if q ∈ had then some (V.bl true) else none) l).isSome)
      · exact et_B (ev_dnotin (ev_var rfl) (ev_var rfl) q5 hbl4)
      · intro hb H5 e5
        have hnl : l ∉ had := by
          intro h; simp [h] at hb
        have hda := line_da G hlm
        rw [pstep, if_neg hnl]
        dsimp only
        obtain ⟨kk, Pd⟩ := Geo.per_ex G wh.two hda
        have hol : (Geo.orb S l).length = kk := by rw [Geo.orb_eq Pd]; simp
        have hkl : kk ≤ 2 * S.lines.length := Pd.le
        have hnl7 := gn.nl
        have hone : Geo.orb S l ≠ [] := by
          intro z; rw [z] at hol; have := Pd.pos; simp at hol; omega
        have hmem : ∀ n ∈ Geo.orb S l, n < S.pts.length := by
          intro n hn
          rw [Geo.orb_eq Pd] at hn
          obtain ⟨t, _, rfl⟩ := List.mem_map.1 hn
          exact (Geo.near_ub G (Geo.fa_near wh hda t)).2
        have e05 := e04.trans e5
        have hbl5 := e5 _ _ hbl4
        have h25 := e05 _ _ h2
        -- the outline
        apply q_asgR (R := fun v H' => ∃ p, v = .ref p ∧ H' p = some (.lst ((Geo.orb S l).map fun (n : Nat) => V.int (n : Int))))
        · refine er_callR Aou.mono (vs := [.ref lp, N, .int l.1, .int l.2]) ?_ ⟨.ref lp, N, S, l, rfl, ⟨lp, us, rfl, ex_l e05 hp, ip.mono monoPt e05⟩, iN.mono ((q3.trans q4).trans e5), gn, wh, hda, rfl⟩
          walk_at "ev"
        · rintro v6 H6 e6 ⟨ol, rfl, hol6⟩
          have olg : ol ≠ g := by
            rintro rfl
            obtain ⟨kvs, hk, _⟩ := q5.mono (e5.trans e6)
            rw [hk] at hol6; cases hol6
          have hg6 := q5.mono (e5.trans e6)
          have gs6 : ∃ o, H6 g = some o := by
            obtain ⟨kvs, hk, _⟩ := hg6
            exact ⟨_, hk⟩
          refine q_zipN (a := ol) (xs := (Geo.orb S l).map fun (n : Nat) => V.int (n : Int)) (ys := ((Geo.orb S l).drop 1 ++ (Geo.orb S l).take 1).map fun (n : Nat) => V.int (n : Int)) (ev_var rfl) (sq_of hol6) ?_ ?_
          · have c1 : ((Geo.orb S l).drop 1 ++ (Geo.orb S l).take 1).map (fun (n : Nat) => V.int (n : Int)) = cutV ((Geo.orb S l).map fun (n : Nat) => V.int (n : Int)) (some ((1 : Nat) : Int)) none ++ cutV ((Geo.orb S l).map fun (n : Nat) => V.int (n : Int)) none (some ((1 : Nat) : Int)) := by
              rw [cut_from, cut_to, List.map_append, List.map_drop, List.map_take]
            rw [c1]
            refine el_cat (el_sl (ev_var rfl) (eo_some ev_c) eo_none (sq_of hol6)) (el_sl (ev_var rfl) eo_none (eo_some ev_c) (sq_of hol6)) ?_
            rw [cut_from, cut_to]
            simp [hol]; omega
          · intro b H7 hb7 e7 hbb7
            have nbg : b ≠ g := by
              rintro rfl
              obtain ⟨o, z⟩ := gs6
              rw [hb7] at z; cases z
            refine ⟨fun i σ' H' => ∃ o, Ex (del H7 g) H' ∧ isDT H' g (fun q => if q ∈ had ++ (Geo.cp (Geo.orb S l)).take i then some (.bl true) else none) ∧ σ' = [some (.ref a), some N, some (.ref g), some (.ref p), some (.ref bl), some (.ref ol), o, o7, o8], ?_, ?_, ?_, ?_⟩
            · refine ⟨o6, del_ex, ?_, rfl⟩
              have := hg6.mono e7
              simpa using this
            · rintro i σ' H' ⟨o, d1, d2, rfl⟩
              exact ⟨sq_of (d1 _ _ (by rw [del_ne olg]; exact e7 _ _ hol6)), sq_of (d1 _ _ (by rw [del_ne nbg]; exact hbb7))⟩
            · rintro i x y T σ' H' hx hy ⟨o, d1, d2, rfl⟩ hT
              rw [List.getElem?_map] at hx hy
              obtain ⟨n1, hn1, rfl⟩ := Option.map_eq_some_iff.1 hx
              obtain ⟨n2, hn2, rfl⟩ := Option.map_eq_some_iff.1 hy
              have hcp : (Geo.cp (Geo.orb S l))[i]? = some (n1, n2) := zip_get hn1 hn2
              have eT : Ex H' (upd H' T (.tup [.int (n1 : Int), .int (n2 : Int)])) := Ex.new hT
              refine s_dput (p := (n1, n2)) (GlaPlan.ways S) (ev_var rfl) (ev_var rfl) ev_c (d2.mono eT) upd_same ?_ (by rw [Geo.len_ways]; omega) ?_
              · intro q hq
                have hq' : q ∈ had ++ (Geo.cp (Geo.orb S l)).take i := by
                  refine Classical.byContradiction fun h => ?_
                  rw [if_neg h] at hq; cases hq
                refine (Geo.mem_ways G).2 ?_
                rcases List.mem_append.1 hq' with z | z
                · exact q6 q z
                · exact Geo.ino_da G wh.two hda ((Geo.mem_cp_orb G wh.two hda).1 (List.mem_of_mem_take z))
              · intro H9 ob e9 hd
                refine ⟨_, Ex.mut (d1.trans (eT.trans e9)) del_at, ?_, rfl⟩
                have ef : (fun q => if q = (n1, n2) then some (V.bl true) else if q ∈ had ++ (Geo.cp (Geo.orb S l)).take i then some (V.bl true) else none) = fun q => if q ∈ had ++ (Geo.cp (Geo.orb S l)).take (i + 1) then some (V.bl true) else none := by
                  funext q
                  have : (Geo.cp (Geo.orb S l)).take (i + 1) = (Geo.cp (Geo.orb S l)).take i ++ [(n1, n2)] := by rw [List.take_add_one, hcp]; rfl
                  rw [this, ← List.append_assoc]
                  by_cases z : q = (n1, n2)
                  · rw [if_pos z, if_pos (by simp [z])]
                  · rw [if_neg z]
                    congr 1
                    simp [z]
                rw [← ef]; exact hd
            · rintro σ' H8 ⟨o, d1, d2, rfl⟩
              have hcl : (Geo.cp (Geo.orb S l)).length = kk := by rw [Geo.cp_orb Pd]; simp
              have hmin : min ((Geo.orb S l).map fun (n : Nat) => V.int (n : Int)).length (((Geo.orb S l).drop 1 ++ (Geo.orb S l).take 1).map fun (n : Nat) => V.int (n : Int)).length = kk := by
                simp [hol]; omega
              rw [hmin, ← hcl, List.take_length] at d2
              have hol8 : H8 ol = some (.lst ((Geo.orb S l).map fun (n : Nat) => V.int (n : Int))) := d1 _ _ (by rw [del_ne olg]; exact e7 _ _ hol6)
              have e67 : Ex H5 H7 := e6.trans e7
              have e57 : Ex Hf H7 := (q4.trans e5).trans e67
              have ef8 : Ex Hf H8 := (ex_del e57 q1).trans d1
              have e08 : Ex H H8 := ef.trans ef8
              have h28 := e08 _ _ h2
              have hp8 : H8 p = some (.lst vs) := d1 _ _ (by rw [del_ne ngp]; exact e67 _ _ (e5 _ _ q7))
              have ip8 := ip.mono monoPt e08
              apply q_asgL (xs := given ((Geo.orb S l).map fun (n : Nat) => V.int (n : Int)).length (fun _ => true) (fun j => (us[(Geo.orb S l).getD j 0]?).getD .non))
              · refine el_lcL (a := ol) (xs := (Geo.orb S l).map fun (n : Nat) => V.int (n : Int)) _ _ (ev_var rfl) (sq_of hol8) ?_ (fun _ => rfl) (fun _ _ _ _ _ => fun H3 e3 Q q => q H3 (Ex.refl H3)) ?_
                · rw [List.length_map, hol]; omega
                · intro j x H9 e9 hj _
                  rw [List.getElem?_map] at hj
                  obtain ⟨n, hn, rfl⟩ := Option.map_eq_some_iff.1 hj
                  have hnm := hmem n (List.mem_of_getElem? hn)
                  obtain ⟨u1, g1, i1⟩ := ip.2 n _ (Geo.pt_get hnm)
                  have h29 := e9 _ _ h28
                  have hp9 := ex_l (e08.trans e9) hp
                  have g1' := atI_nat g1
                  refine ev_is (v := u1) ?_ (by simp [hn, g1])
                  walk_at "ev"
              · intro cl2 H9 hc9 e9 hcc9
                have ncg : cl2 ≠ g := by
                  rintro rfl
                  obtain ⟨kvs, hk, _⟩ := d2
                  rw [hk] at hc9; cases hc9
                have ncp : cl2 ≠ p := by
                  rintro rfl
                  rw [hp8] at hc9; cases hc9
                have icl : Its (isPt K) ((Geo.orb S l).map S.pt) (given ((Geo.orb S l).map fun (n : Nat) => V.int (n : Int)).length (fun _ => true) (fun j => (us[(Geo.orb S l).getD j 0]?).getD .non)) H := by
                  rw [given_all]
                  refine ⟨by simp, fun j q hq => ?_⟩
                  rw [List.getElem?_map] at hq
                  obtain ⟨n, hn, rfl⟩ := Option.map_eq_some_iff.1 hq
                  have hnm := hmem n (List.mem_of_getElem? hn)
                  obtain ⟨u1, g1, i1⟩ := ip.2 n _ (Geo.pt_get hnm)
                  refine ⟨u1, ?_, i1⟩
                  have hj : j < (Geo.orb S l).length := (List.getElem?_eq_some_iff.1 hn).1
                  rw [List.getElem?_map, List.getElem?_range (by simpa using hj)]
                  simp [hn, g1]
                have e09 := e08.trans e9
                have a1 : Acn K [.ref cl2] H9 (.int (csum arP ((Geo.orb S l).map S.pt))) := ⟨.ref cl2, (Geo.orb S l).map S.pt, rfl, ⟨cl2, _, rfl, sq_of hcc9, icl.mono monoPt e09⟩, by simpa using hone, rfl⟩
                rw [area_csum] at a1
                rw [rowsP_snoc]
                have hda6 : ∀ q ∈ had ++ Geo.cp (Geo.orb S l), Geo.Da S q := by
                  intro q hq
                  rcases List.mem_append.1 hq with z | z
                  · exact q6 q z
                  · exact Geo.ino_da G wh.two hda ((Geo.mem_cp_orb G wh.two hda).1 z)
                have hp9 := e9 _ _ hp8
                apply s_when (b := decide (GlaPlan.twiceArea S (Geo.orb S l) > 0))
                · walk_at "ev"
                · intro hb9 H10 e10
                  have hb9' : 0 < GlaPlan.twiceArea S (Geo.orb S l) := of_decide_eq_true hb9
                  rw [if_pos hb9']
                  refine s_app (v := .ref cl2) (e10 _ _ hp9) (ev_var rfl) (ev_var rfl) (by omega) ?_
                  intro H11 e11
                  have e911 : Ex H8 H11 := (e9.trans e10).trans e11
                  have dt11 := (d2.mono e911)
                  refine ⟨del (del H11 g) p, vs ++ [.ref cl2], _, _, _, _, _, by rw [del_ne (Ne.symm ngp)]; exact del_at, del_at, ex_del (ex_del ((q3.trans ef8).trans e911) hbg) hbp, Ex.mut (del_ex.trans del_ex) del_at, ?_, hda6, upd_same, by simp; omega, ?_, rfl⟩
                  · obtain ⟨kvs, hk, hk2⟩ := dt11
                    exact ⟨kvs, by rw [upd_ne (Ne.symm ngp)]; exact hk, hk2⟩
                  · refine Its.snoc (q9.mono monoPL (ex_del (ex_del (ef8.trans e911) q1) q2)) ⟨cl2, _, rfl, sq_of (by rw [del_ne ncp, del_ne ncg]; exact (e10.trans e11) _ _ hcc9), icl.mono monoPt ?_⟩
                    exact ex_del (ex_del (e08.trans e911) (fresh_back e1 hbg)) (fresh_back e1 hbp)
                · intro hb9 H10 e10
                  have hb9' : ¬ 0 < GlaPlan.twiceArea S (Geo.orb S l) := of_decide_eq_false hb9
                  rw [if_neg hb9']
                  exact ⟨Hf, vs, _, _, _, _, _, q1, q2, q3, (ef8.trans e9).trans e10, (d2.mono e9).mono e10, hda6, (e9.trans e10) _ _ hp8, by omega, q9, rfl⟩
      · intro hb H5 e5
        have hnl : l ∈ had := by
          refine Classical.byContradiction fun h => ?_
          simp [h] at hb
        rw [pstep, if_pos hnl]
        exact ⟨Hf, vs, _, o5, o6, o7, o8, q1, q2, q3, q4.trans e5, q5.mono e5, q6, e5 _ _ q7, by omega, q9, rfl⟩
    · rintro σ' H4 ⟨Hf, vs, o4, o5, o6, o7, o8, q1, q2, q3, q4, q5, q6, q7, q8, q9, rfl⟩
      rw [il.1, List.take_length, rowsP_all] at q9
      apply s_ret
      · exact ev_var rfl
      · intro H5 e5
        exact kq _ H5 ((((e1.trans q3).trans q4)).trans e5) ⟨p, vs, rfl, sq_of (e5 _ _ q7), q9.mono monoPL (q4.trans e5)⟩
end
end Hl
end PHl12

section PHl13
set_option Elab.async false
set_option linter.all false
set_option maxRecDepth 100000
set_option maxHeartbeats 2000000
local macro_rules | `(tactic| walk_at "ev") => `(tactic| (first
  | exact Evl.ev_c
  | exact Evl.ev_var rfl
  | (apply Hl.ev_I0 <;> walk_at "ev")
  | (apply Hl.ev_I <;> walk_at "ev")
  | (apply Hl.ev_ixT <;> walk_at "ev")
  | (apply Hl.ev_ixL <;> walk_at "ev")
  | exact Evl.ea_nil
  | (apply Evl.ea_cons <;> walk_at "ev")
  | (apply Hl.ev_callV <;> first | assumption | walk_at "ev")
  | (apply Hl.ev_eq <;> walk_at "ev")
  | (apply Hl.ev_ne <;> walk_at "ev")
  | (apply Hl.ev_fld <;> first | assumption | walk_at "ev")
  | (apply Hl.ev_lenL <;> first | assumption | walk_at "ev")
  | (apply Hl.ev_chain <;> first | (refine fun (_ : _ = _) => ?_; walk_at "ev") | walk_at "ev")
  | (apply Evl.ev_orV <;> first | (refine fun (_ : _ = _) => ?_; walk_at "ev") | walk_at "ev")
  | (apply Evl.ev_andV <;> first | (refine fun (_ : _ = _) => ?_; walk_at "ev") | walk_at "ev")
  | (apply Evl.ev_notV <;> walk_at "ev")
  | (apply Evl.et_test <;> walk_at "ev")
  | (apply Evl.et_B <;> walk_at "ev")
  | (apply Evl.et_not <;> walk_at "ev")
  | (apply Evl.et_and <;> first | (refine fun (_ : _ = _) => ?_; walk_at "ev") | walk_at "ev")
  | (apply Evl.et_or <;> first | (refine fun (_ : _ = _) => ?_; walk_at "ev") | walk_at "ev")
  | assumption
  | (exact Evl.st_of (by assumption))
  | exact rfl
  | skip))

namespace Hl
open PySem PySem.Spec PyProof.Rows L2 Evl
open GlaPlan (Pt Plan)
theorem fa0_find {α : Type} (p : α → Bool) : ∀ (l : List α) (i : Nat), Geo.fa0 (fun _ x => p x) i l = (l.findIdx? p).map (· + i)
  | [], i => rfl
  | x :: r, i => by
    rw [Geo.fa0, List.findIdx?_cons]
    by_cases h : p x = true
    · simp [h]
    · rw [if_neg h, if_neg h, fa0_find p r (i + 1)]
      cases r.findIdx? p with
      | none => rfl
      | some k => simp; omega
def paneP (ps : List (List Pt)) (m : Pt) : Option Nat := ps.findIdx? fun l => decide (csum (sgP m) l ≠ 0)
theorem paneP_idx (S : Plan) (z : Pt) : paneP (panesP S) z = Geo.paneIdx S z := by
  rw [paneP, panesP, Geo.paneIdx, List.findIdx?_map]
  congr 1
  funext l
  show decide (csum (sgP z) (l.map S.pt) ≠ 0) = _
  rw [sg_csum]
section
variable {P : Program} {w : World} {K : PySem.W.Frag} {mg : Str → Option Value} {base : Heap} {C : Addr}
def Apa (K : PySem.W.Frag) : List V → Hp → V → Prop := fun vs H v => ∃ (x y : V) (ps : List (List Pt)) (m : Pt), vs = [x, y] ∧ isL K (isPL K) ps x H ∧ isPt K m y H ∧ (∀ l ∈ ps, l ≠ []) ∧ v = opV (paneP ps m)
theorem Apa.mono : Mono (Apa K) := fun vs H H' v e ⟨x, y, ps, m, h0, h1, h2, h3⟩ => ⟨x, y, ps, m, h0, h1.mono monoPL e, h2.mono e, h3⟩
abbrev s_pane_at : Stmt := topS 57
abbrev N_pane_at : List Str := ["panes", "mark", "i", "corners"]
theorem sc_pane_at : FnScope N_pane_at ["panes", "mark"] (defScope s_pane_at) := ⟨rfl, rfl, rfl, by decide +kernel, rfl, by decide +kernel, by decide +kernel⟩
theorem k_pane_at (T : Txt K mg) (F : Dfn K mg "pane_at" s_pane_at ["panes", "mark"]) (c_surrounds : Cal P w K mg base 2 "surrounds" (spV (Asr K))) : Cal P w K mg base 3 "pane_at" (spV (Apa K)) := by
  refine mk_V F sc_pane_at (fun vs H v h => by obtain ⟨_, _, _, _, rfl, _⟩ := h; rfl) (fun f cdv A' outer s H vs E v hr a => ?_)
  obtain ⟨x, y, ps, m, rfl, ⟨l, us, rfl, hl, il⟩, im, hne, rfl⟩ := a
  have m1 : Mono (Asr K) := Asr.mono
  have hv : paneP ps m = Geo.fa0 (fun _ l => decide (csum (sgP m) l ≠ 0)) 0 ps := by
    rw [fa0_find, paneP]
    cases ps.findIdx? fun l => decide (csum (sgP m) l ≠ 0) <;> rfl
  refine ⟨_, (pss_cons (ps_for PassesOwn.never rfl (pi_enum (by rfl) T.enumerate (pa_cons (pv 0) pa_nil)) (pg_tup (by rfl) (pgs_cons (pg_name (i := 2) sc_pane_at.nd rfl (Or.inl rfl)) (pgs_cons (pg_name (i := 3) sc_pane_at.nd rfl (Or.inl rfl)) pgs_nil)))
        (pss_one (ps_if (pt_val (pe_c c_surrounds hr (by decide) (by rfl) (pa_cons (pv 3) (pa_cons (pv 1) pa_nil)))) (pss_one (ps_ret (pv 2))) pss_nil)))
      (pss_one (ps_ret pe_non))), fun Q kq => ?_⟩
  rw [hv] at kq
  apply q_enumS (R := isPL K) (a := l) (us := us) (xs := ps) monoPL (ev_var rfl) hl il (fun i σ' => Geo.fa0 (fun _ l => decide (csum (sgP m) l ≠ 0)) 0 ps = Geo.fa0 (fun _ l => decide (csum (sgP m) l ≠ 0)) i (ps.drop i) ∧ ∃ o2 o3, σ' = [some (.ref l), some y, o2, o3])
  · exact ⟨rfl, none, none, rfl⟩
  · rintro i c v σ' H1 hc e1 ic ⟨hf, o2, o3, rfl⟩
    rw [fa0_drop hc] at hf
    have a1 : Asr K [v, y] H1 (.bl (decide (csum (sgP m) c ≠ 0))) := ⟨v, y, c, m, rfl, ic, im.mono e1, hne c (List.mem_of_getElem? hc), rfl⟩
    apply s_when (b := decide (csum (sgP m) c ≠ 0))
    · walk_at "ev"
    · intro hb H2 e2
      rw [if_pos hb] at hf
      apply s_ret
      · exact ev_var rfl
      · intro H3 e3
        have := kq H3 ((e1.trans e2).trans e3)
        rw [hf] at this; exact this
    · intro hb H2 e2
      rw [if_neg (by rw [hb]; exact Bool.false_ne_true)] at hf
      exact ⟨⟨hf, _, _, rfl⟩, e1.trans e2⟩
  · rintro σ' H1 ⟨hf, o2, o3, rfl⟩ e1
    rw [fa0_end] at hf
    apply s_ret
    · exact fun H2 e2 Q q => q H2 (Ex.refl H2)
    · intro H3 e3
      have := kq H3 (e1.trans e3)
      rw [hf] at this; exact this
/-! ### marks -/
def Aos (K : PySem.W.Frag) (C : Addr) : List V → Hp → V → Prop := fun vs H v => ∃ (x y : V) (S : Plan) (p : Pt), vs = [x, y] ∧ isDr K C S x H ∧ isPt K p y H ∧ GL S ∧ v = .bl (GlaPlan.onLines S p)
theorem Aos.mono : Mono (Aos K C) := fun vs H H' v e ⟨x, y, S, p, h0, h1, h2, h3⟩ => ⟨x, y, S, p, h0, h1.mono e, h2.mono e, h3⟩
def badZ (S : Plan) (ps : List Pt) (i : Nat) (x : Pt) : Bool := !GlaPlan.clear S x || (decide (0 < i) && (match ps[i - 1]? with | some y => !y.below x | none => false))
def atsOf (S : Plan) : List Pt := S.marks.map fun m => m.at_
def fMark (S : Plan) : Option Nat := (Geo.fa0 (badZ S (atsOf S)) 0 (atsOf S)).map (GlaPlan.markPlace S)
abbrev s_mark_fault : Stmt := topS 75
abbrev N_mark_fault : List Str := ["drawing", "marks", "i", "mark"]
theorem sc_mark_fault : FnScope N_mark_fault ["drawing"] (defScope s_mark_fault) := ⟨rfl, rfl, rfl, by decide +kernel, rfl, by decide +kernel, by decide +kernel⟩
theorem k_mark_fault (T : Txt K mg) (D : DrC K C) (F : Dfn K mg "mark_fault" s_mark_fault ["drawing"]) (c_mark_place : Cal P w K mg base 3 "mark_place" (spV (Adn K C GlaPlan.markPlace))) (c_comes_behind : Cal P w K mg base 1 "comes_behind" (spV (A2 K fun p q => .bl (q.below p))))
    (c_on_some_line : Cal P w K mg base 3 "on_some_line" (spV (Aos K C))) :
    Cal P w K mg base 4 "mark_fault" (spV (Ado K C GL fun S => opV (fMark S))) := by
  refine mk_V F sc_mark_fault (fun vs H v h => h.len) (fun f cdv A' outer s H vs E v hr a => ?_)
  obtain ⟨x, S, rfl, id, gl, rfl⟩ := a
  have id0 := id
  obtain ⟨a, dx, fs, vp, vl, vm, rfl, h2, f1, f2, f3, f4, f5, ip, il, ⟨lm, us, rfl, hm, im⟩⟩ := id
  have cl := D.cl
  have n1 := D.n1
  have n2 := D.n2
  have n5 := D.n5
  refine ⟨_, (pss_cons (ps_set (i := 1) sc_mark_fault.nd rfl (Or.inl rfl) (pe_fld (pv 0) rfl))
      (pss_cons (ps_for PassesOwn.never rfl (pi_enum (by rfl) T.enumerate (pa_cons (pv 1) pa_nil)) (pg_tup (by rfl) (pgs_cons (pg_name (i := 2) sc_mark_fault.nd rfl (Or.inl rfl)) (pgs_cons (pg_name (i := 3) sc_mark_fault.nd rfl (Or.inl rfl)) pgs_nil)))
        (pss_cons (ps_if (pt_not (PW.pt (pw_and (pt_chain op_lt op_lt pe_int (pe_ix ix_tup (pv 3) pe_int (fun _ _ => rfl)) (pe_fld (pv 0) rfl)) (pw_and1 (pt_chain op_lt op_lt pe_int (pe_ix ix_tup (pv 3) pe_int (fun _ _ => rfl)) (pe_fld (pv 0) rfl)))))) (pss_one (ps_ret (pe_c c_mark_place hr (by decide) (by rfl) (pa_cons (pv 0) (pa_cons (pv 2) pa_nil))))) pss_nil)
      (pss_cons (ps_if (pt_val (pe_c c_on_some_line hr (by decide) (by rfl) (pa_cons (pv 0) (pa_cons (pv 3) pa_nil)))) (pss_one (ps_ret (pe_c c_mark_place hr (by decide) (by rfl) (pa_cons (pv 0) (pa_cons (pv 2) pa_nil))))) pss_nil)
      (pss_one (ps_if (PW.pt (pw_and (pt_cmpR op_gt (pv 2) pe_int (nomark _)) (pw_and1 (pt_not (pt_val (pe_c c_comes_behind hr (by decide) (by rfl) (pa_cons (pv 3) (pa_cons (pe_ix ix_list (pv 1) (pe_op op_sub (pv 2) pe_int) (fun _ _ => rfl)) pa_nil)))))))) (pss_one (ps_ret (pe_c c_mark_place hr (by decide) (by rfl) (pa_cons (pv 0) (pa_cons (pv 2) pa_nil))))) pss_nil)))))
      (pss_one (ps_ret pe_non)))), fun Q kq => ?_⟩
  replace kq : ∀ H', Ex H H' → Q (opV (fMark S)) H' := kq
  rw [fMark] at kq
  have m1 : Mono (Adn K C GlaPlan.markPlace) := Adn.mono
  have m2 : Mono (A2 K fun p q => .bl (q.below p)) := A2.mono
  apply q_asg
  · walk_at "ev"
  · intro H1 e1
    apply q_enumS monoPt (ev_var rfl) (ex_l e1 hm) (im.mono monoPt e1) (fun i σ' => ∃ y z, σ' = [some (.ref a), some (.ref lm), y, z] ∧ Geo.fa0 (badZ S (atsOf S)) 0 (atsOf S) = Geo.fa0 (badZ S (atsOf S)) i ((atsOf S).drop i))
    · exact ⟨none, none, rfl, rfl⟩
    · rintro i p v σ' H2 hx e2 iv ⟨y, z, rfl, hF⟩
      replace hx : (atsOf S)[i]? = some p := hx
      rw [fa0_drop hx] at hF
      have ivp := iv
      obtain ⟨hpb, av, rfl, hv⟩ := iv
      have h2' := (e1.trans e2) _ _ h2
      have e02 := e1.trans e2
      have place : ∀ H3, Ex H H3 → Adn K C GlaPlan.markPlace [.ref a, .int i] H3 (.int (GlaPlan.markPlace S i : Nat)) := fun H3 e => ⟨.ref a, S, i, rfl, id0.mono e, rfl⟩
      have out : ∀ H3, Ex H H3 → badZ S (atsOf S) i p = true → Q (.int (GlaPlan.markPlace S i : Nat)) H3 := fun H3 e hb => by
        rw [if_pos hb] at hF
        have := kq H3 e
        rw [hF] at this; exact this
      apply q_when (b := !((decide (0 < p.x) && decide (p.x < S.w)) && (decide (0 < p.y) && decide (p.y < S.h))))
      · refine et_is (a := !((decide ((0 : Int) < p.x) && decide ((p.x : Int) < S.w)) && (decide ((0 : Int) < p.y) && decide ((p.y : Int) < S.h)))) ?_ (by rw [Bool.eq_iff_iff]; simp)
        walk_at "ev"
      · intro hb H3 e3
        have a1 := place H3 (e02.trans e3)
        have hbad : badZ S (atsOf S) i p = true := by
          have : GlaPlan.clear S p = false := by
            rw [GlaPlan.clear]
            revert hb
            cases decide (0 < p.x) <;> cases decide (p.x < S.w) <;> cases decide (0 < p.y) <;> cases decide (p.y < S.h) <;> simp
          rw [badZ, this]; rfl
        apply s_ret
        · walk_at "ev"
        · exact fun H4 e4 => out H4 ((e02.trans e3).trans e4) hbad
      · intro hb H3 e3
        have e03 := e02.trans e3
        have m3 : Mono (Aos K C) := Aos.mono
        have a2 : Aos K C [.ref a, .ref av] H3 (.bl (GlaPlan.onLines S p)) := ⟨_, _, S, p, rfl, id0.mono e03, ivp.mono e3, gl, rfl⟩
        have hcl : GlaPlan.clear S p = !GlaPlan.onLines S p := by
          rw [GlaPlan.clear]
          revert hb
          cases decide (0 < p.x) <;> cases decide (p.x < S.w) <;> cases decide (0 < p.y) <;> cases decide (p.y < S.h) <;> simp
        apply q_when (b := GlaPlan.onLines S p)
        · walk_at "ev"
        · intro hb2 H4 e4
          have a1 := place H4 (e03.trans e4)
          have hbad : badZ S (atsOf S) i p = true := by rw [badZ, hcl, hb2]; rfl
          apply s_ret
          · walk_at "ev"
          · exact fun H5 e5 => out H5 ((e03.trans e4).trans e5) hbad
        · intro hb2 H4 e4
          have e04 := e03.trans e4
          have prev : 0 < i → ∃ p' u', (atsOf S)[i - 1]? = some p' ∧ us[i - 1]? = some u' ∧ isPt K p' u' H4 := by
            intro hi
            have : i - 1 < (atsOf S).length := by have := (List.getElem?_eq_some_iff.1 hx).1; omega
            obtain ⟨u', q1, q2⟩ := im.2 (i - 1) _ (List.getElem?_eq_getElem this)
            exact ⟨_, u', List.getElem?_eq_getElem this, q1, q2.mono e04⟩
          apply s_when (b := badZ S (atsOf S) i p)
          · rw [badZ, hcl, hb2, Bool.not_false, Bool.not_true, Bool.false_or]
            refine et_is (a := decide ((0 : Int) < i) && (match (atsOf S)[i - 1]? with | some y => !y.below p | none => false)) (et_and ?_ ?_) (by congr 1; simp)
            · walk_at "ev"
            · intro hi
              have hi : 0 < i := by simpa using hi
              obtain ⟨p', u', q1, q2, q3⟩ := prev hi
              rw [q1]
              have a2 : A2 K (fun p q => .bl (q.below p)) [.ref av, u'] H4 (.bl (p'.below p)) := ⟨_, _, p, p', rfl, ivp.mono (e3.trans e4), q3, rfl⟩
              have hat : atI us ((i : Int) - 1) = some u' := by
                rw [show (i : Int) - 1 = ((i - 1 : Nat) : Int) by omega]
                exact atI_nat q2
              have hm4 := ex_l e04 hm
              walk_at "ev"
          · intro hb3 H5 e5
            have a1 := place H5 (e04.trans e5)
            apply s_ret
            · walk_at "ev"
            · exact fun H6 e6 => out H6 ((e04.trans e5).trans e6) hb3
          · intro hb3 H5 e5
            rw [hb3, if_neg Bool.false_ne_true] at hF
            exact ⟨⟨_, _, rfl, hF⟩, ((e2.trans e3).trans e4).trans e5⟩
    · rintro σ' H2 ⟨y, z, rfl, hF⟩ e2
      replace hF : Geo.fa0 (badZ S (atsOf S)) 0 (atsOf S) = Geo.fa0 (badZ S (atsOf S)) (atsOf S).length ((atsOf S).drop (atsOf S).length) := hF
      rw [fa0_end] at hF
      rw [hF] at kq
      apply s_ret
      · exact ev_c
      · exact fun H3 e3 => kq H3 ((e1.trans e2).trans e3)
end
end Hl
end PHl13

section PRl8
set_option Elab.async false
set_option linter.all false
set_option maxRecDepth 100000
namespace Hl
open PySem PySem.Spec PyProof.Rows L2 Evl
/-! ### dicts by numbers and None -/
def nV : Option Key → V
  | none => .non
  | some k => kV k
def nD (P : Program) (w : World) (d : Addr) (kvs : List (Option Key × V)) : HO := .ext fun h => kvs.length ≤ sizeLine ∧ (d == sysModules) = false ∧ ∃ vs, KV kvs vs ∧ h.DictOf (noneKind P w) d vs
theorem nV_is {P : Program} {w : World} {k : Option Key} {u : Value} (r : RelV (nV k) u) : (noneKind P w).is k u = true := by
  cases k with
  | none => obtain rfl : u = Value.none := r; rfl
  | some k => exact kV_is (P := P) (w := w) r
theorem nD_ok {P : Program} {w : World} {H : Hp} {h : Heap} {d : Addr} {kvs : List (Option Key × V)} {vs : List (Option Key × Value)} (z : kvs.length ≤ sizeLine) (hd : (d == sysModules) = false) (rel : KV kvs vs) (dd : h.DictOf (noneKind P w) d vs) : ObjOk P w H h d (nD P w d kvs) := by
  have ho : ∃ o, h.get? d = some o := let ⟨q, _, _, hq, _⟩ := dd; ⟨q, hq⟩
  refine ⟨⟨z, hd, vs, rel, dd⟩, ho, ?_⟩
  rintro h1 h2 ⟨z1, hd1, vs1, rel1, ob, es, ep, e, c⟩ k
  exact ⟨z1, hd1, vs1, rel1, ob, es, ep, k _ e, c⟩
section
variable {X : Cx} {pins : List (Addr × Obj)} {σ : L2.St} {H : Hp} {s : Shared} {a : Addr} {kvs : List (Option Key × V)} {k : Option Key} {v : V} {u r : Value} {A : Around} {E : Value → Shared → Prop}
theorem nD_rd (I : Inv X pins σ H s) (e : H a = some (nD X.prog X.w a kvs)) : kvs.length ≤ sizeLine ∧ (a == sysModules) = false ∧ ∃ vs, KV kvs vs ∧ s.heap.DictOf (noneKind X.prog X.w) a vs := (I.hok a _ e).1
theorem n_in {Q : Value → Shared → Prop} (I : Inv X pins σ H s) (e : H a = some (nD X.prog X.w a kvs)) (ry : RelV (nV k) u) (h : ∀ s', Inv X pins σ H s' → Q (.bool (valV kvs k).isSome) s') : wpAny (model X.prog X.w) A (compareOp .In u (.ref a)) Q E s := by
  obtain ⟨z, hd, vs, rel, dd⟩ := nD_rd I e
  refine wpAny_in_of (nV_is ry) hd dd.mapOf ?_
  rw [← (rel.val k).isSome_eq]
  exact h _ (I.tok _)
theorem n_set {Q : Unit → Shared → Prop} (I : Inv X pins σ H s) (e : H a = some (nD X.prog X.w a kvs)) (hl : kvs.length < sizeLine) (ry : RelV (nV k) u) (rv : RelV v r) (h : ∀ s', Inv X pins σ (upd H a (nD X.prog X.w a (putK kvs k v))) s' → Q () s') : wpAny (model X.prog X.w) A (setItem (.ref a) u r) Q E s := by
  obtain ⟨z, hd, vs, rel, dd⟩ := nD_rd I e
  have hz : vs.length ≤ sizeLine := by rw [← rel.length]; exact z
  have hl : (putK kvs k v).length ≤ sizeLine := by have := length_putK kvs k v; omega
  refine wpAny_setItem_pairs (hsz := hz) (nV_is ry) dd fun h' dd' hs => h _ ?_
  have he : ∃ q, h'.get? a = some q := let ⟨q, _, _, hq, _⟩ := dd'; ⟨q, hq⟩
  exact d_write I (by rw [e]; exact True.intro) hs he (nD_ok hl hd (rel.put k rv) dd')
end
def tDNewN (P : Program) (w : World) : TE := fun _ H Q => ∀ p, H p = none → Q (.ref p) (upd H p (nD P w p []))
def tDInQ (P : Program) (w : World) (ty td : TE) : TE := fun σ H Q => ty σ H fun y H1 => td σ H1 fun x H2 => ∃ a kvs k, x = .ref a ∧ H2 a = some (nD P w a kvs) ∧ y = nV k ∧ Q (.bl (valV kvs k).isSome) H2
def sDPutN (P : Program) (w : World) (td ty tv : TE) : TS := fun D σ H => tv σ H fun v H1 => td σ H1 fun x H2 => ty σ H2 fun y H3 => ∃ a kvs k, x = .ref a ∧ H3 a = some (nD P w a kvs) ∧ kvs.length < sizeLine ∧ y = nV k ∧ D.nx σ (upd H3 a (nD P w a (putK kvs k v)))
section
variable {X : Cx} {pos pos' : Pos} {o i value : Expr} {td ty tv : TE}
theorem pe_dnewN : PE X (.Dict [] [] pos) (tDNewN X.prog X.w) := ⟨fun pins s σ H Q I h =>
  wpAny_Dict_empty ⟨.ref s.heap.objs.size, _, I.laid (a := s.heap.objs.size) (o := nD X.prog X.w s.heap.objs.size []) (t' := s.toks) (fun _ _ q => Heap.get?_push_of_some _ q) (Nat.le_refl _)
    (nD_ok (Nat.zero_le _) (beq_eq_false_iff_ne.mpr (Ne.symm (Nat.ne_of_lt I.big))) .nil (Heap.DictOf.new s.heap)), rfl, h _ (I.hok.fresh (Nat.le_refl _))⟩⟩
theorem pc_dinQ (hi : PE X i ty) (ho : PE X o td) : PC X .In i o (tDInQ X.prog X.w ty td) := by
  refine ⟨fun pins s σ H Q I h => ?_⟩
  refine thn (hi.run pins s σ H _ I h) fun iv s1 ⟨y, H1, I1, ry, q1⟩ => thn (ho.run pins s1 σ H1 _ I1 q1) fun u s2 ⟨x, H2, I2, rx, a, kvs, k, ex, g, ey, q2⟩ => ?_
  subst ex ey
  obtain rfl : u = Value.ref a := rx
  exact n_in I2 g ry fun s3 I3 => ⟨.bl (valV kvs k).isSome, H2, I3, rfl, q2⟩
theorem ps_dputN (ho : PE X o td) (hi : PE X i ty) (hv : PE X value tv) (hs : swapsWith value (some (.Subscript o i pos')) pos.line X.env = pure false) : PS X (.Assign [.Subscript o i pos'] value pos) (sDPutN X.prog X.w td ty tv) := by
  refine ⟨fun pins s σ H D I h => ?_⟩
  refine wpAny_Assign_Subscript (thn (hv.run pins s σ H _ I h) fun r s1 ⟨v, H1, I1, rv, q1⟩ => thn (ho.run pins s1 σ H1 _ I1 q1) fun u s2 ⟨x, H2, I2, rx, q2⟩ => thn (hi.run pins s2 σ H2 _ I2 q2) fun iv s3 ⟨y, H3, I3, ry, q3⟩ => ?_) hs
  obtain ⟨a, kvs, k, ex, g, hl, ey, q3⟩ := q3
  subst ex ey
  obtain rfl : u = Value.ref a := rx
  exact n_set I3 g hl ry rv fun s4 I4 => ⟨σ, _, I4, q3⟩
end
section
variable {K : PySem.W.Frag} {P : Program} {w : World} {σ : L2.St} {H : Hp} {ta tb td te tv ty : TE} {v : V} {D : Ends} {tz : TS}
theorem ef_dnewN : EvF (tDNewN P w) σ H (fun p H' => H' p = some (nD P w p [])) := fun H1 e Q q p hp => q p _ hp (Ex.new hp) upd_same
theorem ev_dinQ {g : Addr} {kvs : List (Option Key × V)} {k : Option Key} (hy : Ev ty σ H (nV k)) (hd : Ev td σ H (.ref g)) (h : H g = some (nD P w g kvs)) : Ev (tDInQ P w ty td) σ H (.bl (valV kvs k).isSome) := fun H1 e1 Q q =>
  hy H1 e1 _ fun H2 e2 => hd H2 (e1.trans e2) _ fun H3 e3 => ⟨g, kvs, k, rfl, ((e1.trans e2).trans e3) _ _ h, rfl, q H3 (e2.trans e3)⟩
theorem s_dputN {g : Addr} {kvs : List (Option Key × V)} {k : Option Key} (hy : Ev ty σ H (nV k)) (hd : Ev td σ H (.ref g)) (hv : Ev tv σ H v) (h : H g = some (nD P w g kvs)) (hz : kvs.length < 1000000)
    (q : ∀ H1, Ex H H1 → D.nx σ (upd H1 g (nD P w g (putK kvs k v)))) : sDPutN P w td ty tv D σ H :=
  hv H (Ex.refl H) _ fun H1 e1 => hd H1 e1 _ fun H2 e2 => hy H2 (e1.trans e2) _ fun H3 e3 => ⟨g, kvs, k, rfl, ((e1.trans e2).trans e3) _ _ h, Nat.lt_of_lt_of_le hz (by decide), rfl, q H3 ((e1.trans e2).trans e3)⟩
theorem ev_lenR {n : Nat} (ha : EvR te σ H (fun v H' => ∃ p us, v = .ref p ∧ SqL K H' p us ∧ us.length = n)) : Ev (tCB (rLenS K) (tCons te tNil)) σ H (.int (n : Int)) := fun H1 e Q q =>
  ha H1 e _ fun v H2 e2 r => by
    obtain ⟨p, us, rfl, h, rfl⟩ := r
    exact ⟨p, us, rfl, .inl h, q H2 e2⟩
end
end Hl
end PRl8

section PHl14
set_option Elab.async false
set_option linter.all false
set_option maxRecDepth 100000
set_option maxHeartbeats 2000000
local macro_rules | `(tactic| walk_at "ev") => `(tactic| (first
  | exact Evl.ev_c
  | exact Evl.ev_var rfl
  | (apply Hl.ev_I0 <;> walk_at "ev")
  | (apply Hl.ev_I <;> walk_at "ev")
  | (apply Hl.ev_ixT <;> walk_at "ev")
  | (apply Hl.ev_ixL <;> walk_at "ev")
  | exact Evl.ea_nil
  | (apply Evl.ea_cons <;> walk_at "ev")
  | (apply Hl.ev_callV <;> first | assumption | walk_at "ev")
  | (apply Hl.ev_eq <;> walk_at "ev")
  | (apply Hl.ev_ne <;> walk_at "ev")
  | (apply Hl.ev_fld <;> first | assumption | walk_at "ev")
  | (apply Hl.ev_lenL <;> first | assumption | walk_at "ev")
  | (apply Hl.ev_chain <;> first | (refine fun (_ : _ = _) => ?_; walk_at "ev") | walk_at "ev")
  | (apply Evl.ev_orV <;> first | (refine fun (_ : _ = _) => ?_; walk_at "ev") | walk_at "ev")
  | (apply Evl.ev_andV <;> first | (refine fun (_ : _ = _) => ?_; walk_at "ev") | walk_at "ev")
  | (apply Evl.ev_notV <;> walk_at "ev")
  | (apply Evl.et_test <;> walk_at "ev")
  | (apply Evl.et_B <;> walk_at "ev")
  | (apply Evl.et_not <;> walk_at "ev")
  | (apply Evl.et_and <;> first | (refine fun (_ : _ = _) => ?_; walk_at "ev") | walk_at "ev")
  | (apply Evl.et_or <;> first | (refine fun (_ : _ = _) => ?_; walk_at "ev") | walk_at "ev")
  | assumption
  | (exact Evl.st_of (by assumption))
  | exact rfl
  | skip))

namespace Hl
open PySem PySem.Spec PyProof.Rows L2 Evl
open GlaPlan (Pt Plan)
structure Gp (S : Plan) : Prop where
  gn : GN S
  np : S.pts.length ≤ 4096
  nl : S.lines.length ≤ 8192
  nm : S.marks.length ≤ 2048
  wh : Geo.Whole S
theorem panesP_ne {S : Plan} (wh : Geo.Whole S) : ∀ l ∈ panesP S, l ≠ [] := by
  intro l hl
  obtain ⟨r, hr, rfl⟩ := List.mem_map.1 hl
  obtain ⟨hr, _⟩ := List.mem_filter.1 hr
  obtain ⟨e, he, rfl⟩ := List.mem_map.1 hr
  have hda := (Geo.firsts_fs wh).da e he
  obtain ⟨kk, Pd⟩ := Geo.per_ex wh.toGood wh.two hda
  intro z
  have := congrArg List.length z
  rw [List.length_map, Geo.orb_eq Pd] at this
  have := Pd.pos
  simp at *; omega
def fBare (S : Plan) : Option Nat := if S.marks.length < (Geo.paneRows S).length then some (GlaPlan.markPlace S S.marks.length) else none
def fSecond (S : Plan) : Option Nat := (Geo.dup 0 [] (S.marks.map fun m => Geo.paneIdx S m.at_)).map (GlaPlan.markPlace S)
section
variable {P : Program} {w : World} {K : PySem.W.Frag} {mg : Str → Option Value} {base : Heap} {C : Addr}
abbrev s_bare_pane_fault : Stmt := topS 77
abbrev N_bare_pane_fault : List Str := ["drawing"]
theorem sc_bare_pane_fault : FnScope N_bare_pane_fault ["drawing"] (defScope s_bare_pane_fault) := ⟨rfl, rfl, rfl, by decide +kernel, rfl, by decide +kernel, by decide +kernel⟩
theorem k_bare_pane_fault (T : Txt K mg) (D : DrC K C) (F : Dfn K mg "bare_pane_fault" s_bare_pane_fault ["drawing"]) (c_mark_place : Cal P w K mg base 3 "mark_place" (spV (Adn K C GlaPlan.markPlace))) (c_panes_of : Cal P w K mg base 5 "panes_of" (spR (Apn2 K C))) :
    Cal P w K mg base 6 "bare_pane_fault" (spV (Ado K C Gp fun S => opV (fBare S))) := by
  refine mk_V F sc_bare_pane_fault (fun vs H v h => h.len) (fun f cdv A' outer s H vs E v hr a => ?_)
  obtain ⟨x, S, rfl, id, gp, rfl⟩ := a
  have id0 := id
  obtain ⟨a, dx, fs, vp, vl, vm, rfl, h2, f1, f2, f3, f4, f5, ip, il, ⟨lm, us, rfl, hm, im⟩⟩ := id
  have cl := D.cl
  have n5 := D.n5
  have hml : us.length = S.marks.length := by rw [im.1]; simp
  refine ⟨_, (pss_cons (ps_if (pt_cmpR op_gt (pe_callB call_len_seq (by rfl) T.len PySem.boot_len (pa_cons (pe_c c_panes_of hr (by decide) (by rfl) (pa_cons (pv 0) pa_nil)) pa_nil)) (pe_callB call_len_seq (by rfl) T.len PySem.boot_len (pa_cons (pe_fld (pv 0) rfl) pa_nil)) (nomark _)) (pss_one (ps_ret (pe_c c_mark_place hr (by decide) (by rfl) (pa_cons (pv 0) (pa_cons (pe_callB call_len_seq (by rfl) T.len PySem.boot_len (pa_cons (pe_fld (pv 0) rfl) pa_nil)) pa_nil))))) pss_nil)
      (pss_one (ps_ret pe_non))), fun Q kq => ?_⟩
  replace kq : ∀ H', Ex H H' → Q (opV (fBare S)) H' := kq
  have m1 : Mono (Adn K C GlaPlan.markPlace) := Adn.mono
  have er : EvR (tCall (spR (Apn2 K C)) [] E0 (tCons (tVar 0) tNil)) [some (.ref a)] H (fun v H' => ∃ p us, v = .ref p ∧ SqL K H' p us ∧ us.length = (Geo.paneRows S).length) := by
    intro H1 e1 Q' q'
    refine er_callR Apn2.mono (vs := [.ref a]) (ea_cons (ev_var rfl) ea_nil) ⟨.ref a, S, rfl, id0, gp.gn, ⟨gp.np, gp.nl⟩, gp.wh, rfl⟩ H1 e1 Q' ?_
    rintro v H2 e2 ⟨p, us, rfl, h, hI⟩
    exact q' _ H2 e2 ⟨p, us, rfl, h, by rw [hI.1]; simp [panesP]⟩
  rw [fBare] at kq
  apply q_when (b := decide (S.marks.length < (Geo.paneRows S).length))
  · refine et_is (a := decide (((Geo.paneRows S).length : Int) > (us.length : Int))) ?_ (by rw [hml, Bool.eq_iff_iff]; simp)
    refine et_test (ev_I0 (ev_lenR er) ?_)
    walk_at "ev"
  · intro hb H1 e1
    rw [if_pos (of_decide_eq_true hb)] at kq
    have h21 := e1 _ _ h2
    have hm1 := ex_l e1 hm
    have a1 : Adn K C GlaPlan.markPlace [.ref a, .int (us.length : Int)] H1 (.int (GlaPlan.markPlace S S.marks.length : Nat)) := ⟨.ref a, S, us.length, rfl, id0.mono e1, by rw [hml]⟩
    apply s_ret (v := .int (GlaPlan.markPlace S S.marks.length : Nat))
    · walk_at "ev"
    · exact fun H2 e2 => kq H2 (e1.trans e2)
  · intro hb H1 e1
    rw [if_neg (of_decide_eq_false hb)] at kq
    apply s_ret
    · exact ev_c
    · exact fun H2 e2 => kq H2 (e1.trans e2)
/-- enumerate, the heap told -/
theorem q_forEn {σ : L2.St} {H : Hp} {te : TE} {D : Ends} {tu tz : TS} {a : Addr} {xs : List V} {j1 j2 : Nat} (h : Ev te σ H (.ref a)) (hx : SqL K H a xs) (Pv : Nat → L2.St → Hp → Prop) (h0 : ∀ H1, Ex H H1 → Pv 0 σ H1) (hl : ∀ i σ' H', Pv i σ' H' → SqL K H' a xs)
    (hs : ∀ i x σ' H' H'', xs[i]? = some x → Pv i σ' H' → Ex H' H'' → tu { D with nx := Pv (i + 1), ct := Pv (i + 1), bk := tz D } ((σ'.set j1 (some (.int (i : Nat)))).set j2 (some x)) H'') (hd : ∀ σ' H', Pv xs.length σ' H' → tz D σ' H') :
    tSeq (tFor (iEnum K (tCons te tNil)) (gTup K 2 (gCons (gName j1) (gCons (gName j2) gNil))) tu) tz D σ H :=
  h H (Ex.refl H) _ fun H1 e1 => ⟨a, xs, rfl, ex_l e1 hx, for_it walk_enum Pv (h0 H1 e1) (fun i σ' H' _ p => hl i σ' H' p) (fun i y σ' H2 H3 hi p hy => by
    obtain ⟨T, x, z, rfl, hT, rfl, hx, hz⟩ := hy
    obtain rfl := Option.some.inj hx
    exact g_pair upd_same (hs i z σ' H2 _ hz p (Ex.new hT))) (fun σ' H' p => hd σ' H' p)⟩
def kN (o : Option Nat) : Option Key := o.map fun n => .inl (n : Int)
theorem kN_inj {a b : Option Nat} (h : kN a = kN b) : a = b := by
  cases a with
  | none => cases b with
    | none => rfl
    | some _ => cases h
  | some x => cases b with
    | none => cases h
    | some y =>
      have : (Sum.inl (x : Int) : Key) = .inl (y : Int) := Option.some.inj h
      injection this with this
      rw [show x = y by omega]
theorem nV_kN (o : Option Nat) : nV (kN o) = opV o := by cases o <;> rfl
theorem dup_drop {l : List (Option Nat)} {i : Nat} {x : Option Nat} {had : List (Option Nat)} (h : l[i]? = some x) : Geo.dup i had (l.drop i) = if x ∈ had then some i else Geo.dup (i + 1) (x :: had) (l.drop (i + 1)) := by
  obtain ⟨h1, h2⟩ := List.getElem?_eq_some_iff.1 h
  rw [List.drop_eq_getElem_cons h1, h2, Geo.dup]
  by_cases h3 : x ∈ had
  · rw [if_pos h3, if_pos h3]
  · rw [if_neg h3, if_neg h3]
abbrev s_second_mark_fault : Stmt := topS 76
abbrev N_second_mark_fault : List Str := ["drawing", "panes", "marked", "i", "mark", "pane"]
theorem sc_second_mark_fault : FnScope N_second_mark_fault ["drawing"] (defScope s_second_mark_fault) := ⟨rfl, rfl, rfl, by decide +kernel, rfl, by decide +kernel, by decide +kernel⟩
theorem k_second_mark_fault (T : Txt K mg) (D : DrC K C) (F : Dfn K mg "second_mark_fault" s_second_mark_fault ["drawing"]) (c_mark_place : Cal P w K mg base 3 "mark_place" (spV (Adn K C GlaPlan.markPlace))) (c_panes_of : Cal P w K mg base 5 "panes_of" (spR (Apn2 K C)))
    (c_pane_at : Cal P w K mg base 3 "pane_at" (spV (Apa K))) :
    Cal P w K mg base 6 "second_mark_fault" (spV (Ado K C Gp fun S => opV (fSecond S))) := by
  refine mk_V F sc_second_mark_fault (fun vs H v h => h.len) (fun f cdv A' outer s H vs E v hr a => ?_)
  obtain ⟨x, S, rfl, id, gp, rfl⟩ := a
  have id0 := id
  obtain ⟨a, dx, fs, vp, vl, vm, rfl, h2, f1, f2, f3, f4, f5, ip, il, ⟨lm, us, rfl, hm, im⟩⟩ := id
  have cl := D.cl
  have n5 := D.n5
  have hml : us.length = S.marks.length := by rw [im.1]; simp
  refine ⟨_, (pss_cons (ps_set (i := 1) sc_second_mark_fault.nd rfl (Or.inl rfl) (pe_c c_panes_of hr (by decide) (by rfl) (pa_cons (pv 0) pa_nil)))
      (pss_cons (ps_set (i := 2) sc_second_mark_fault.nd rfl (Or.inl rfl) pe_dnewN)
      (pss_cons (ps_for PassesOwn.never rfl (pi_enum (by rfl) T.enumerate (pa_cons (pe_fld (pv 0) rfl) pa_nil)) (pg_tup (by rfl) (pgs_cons (pg_name (i := 3) sc_second_mark_fault.nd rfl (Or.inl rfl)) (pgs_cons (pg_name (i := 4) sc_second_mark_fault.nd rfl (Or.inl rfl)) pgs_nil)))
        (pss_cons (ps_set (i := 5) sc_second_mark_fault.nd rfl (Or.inl rfl) (pe_c c_pane_at hr (by decide) (by rfl) (pa_cons (pv 1) (pa_cons (pv 4) pa_nil))))
      (pss_cons (ps_if (pt_cmp (pc_dinQ (pv 5) (pv 2)) rfl) (pss_one (ps_ret (pe_c c_mark_place hr (by decide) (by rfl) (pa_cons (pv 0) (pa_cons (pv 3) pa_nil))))) pss_nil)
      (pss_one (ps_dputN (pv 2) (pv 5) pe_bl rfl)))))
      (pss_one (ps_ret pe_non))))), fun Q kq => ?_⟩
  replace kq : ∀ H', Ex H H' → Q (opV (fSecond S)) H' := kq
  have m1 : Mono (Adn K C GlaPlan.markPlace) := Adn.mono
  have m2 : Mono (Apa K) := Apa.mono
  have hpi : (S.marks.map fun m => Geo.paneIdx S m.at_) = (atsOf S).map (paneP (panesP S)) := by
    rw [atsOf, List.map_map]
    apply List.map_congr_left
    intro m _
    exact (paneP_idx S m.at_).symm
  rw [fSecond, hpi] at kq
  generalize hL : (atsOf S).map (paneP (panesP S)) = L at *
  apply q_asgR
  · exact er_callR Apn2.mono (vs := [.ref a]) (ea_cons (ev_var rfl) ea_nil) ⟨.ref a, S, rfl, id0, gp.gn, ⟨gp.np, gp.nl⟩, gp.wh, rfl⟩
  · intro ps H1 e1 ips
    apply q_asgF ef_dnewN
    intro g H2 hg e2 hg2
    have e12 := e1.trans e2
    have h22 := e12 _ _ h2
    refine q_forEn (a := lm) (xs := us) ?_ (ex_l e12 hm) (fun i σ' H' => ∃ (kvs : List (Option Key × V)) (had : List (Option Nat)) (o3 o4 o5 : Option V), Ex H1 H' ∧ H' g = some (nD P w g kvs) ∧ kvs.length ≤ i ∧ (∀ k, (valV kvs (kN k)).isSome = decide (k ∈ had)) ∧
      Geo.dup 0 [] L = Geo.dup i had (L.drop i) ∧ σ' = [some (.ref a), some ps, some (.ref g), o3, o4, o5]) ?_ ?_ ?_ ?_
    · walk_at "ev"
    · intro H3 e3
      exact ⟨[], [], none, none, none, e2.trans e3, e3 _ _ hg2, Nat.zero_le _, fun k => rfl, rfl, rfl⟩
    · rintro i σ' H' ⟨kvs, had, o3, o4, o5, q1, _⟩
      exact ex_l (e1.trans q1) hm
    · rintro i u σ' H3a H3 hu ⟨kvs, had, o3, o4, o5, q1, q2, q3, q4, q5, rfl⟩ e3a
      replace q1 := q1.trans e3a
      replace q2 := e3a _ _ q2
      obtain ⟨z, hz, iz⟩ := im.get hu
      have hi : i < S.marks.length := by rw [← hml]; exact (List.getElem?_eq_some_iff.1 hu).1
      have hLi : L[i]? = some (paneP (panesP S) z) := by
        rw [← hL, List.getElem?_map, show (atsOf S)[i]? = some z from hz]; rfl
      rw [dup_drop hLi] at q5
      have q4' := q4
      have e03 := e1.trans q1
      have a1 : Apa K [ps, u] H3 (opV (paneP (panesP S) z)) := ⟨ps, u, panesP S, z, rfl, ips.mono monoPL q1, iz.mono e03, panesP_ne gp.wh, rfl⟩
      generalize hpn : paneP (panesP S) z = pn at *
      apply q_asg
      · walk_at "ev"
      · intro H4 e4
        have e04 := e03.trans e4
        apply q_when (b := decide (pn ∈ had))
        · rw [← q4 pn]
          refine et_B (ev_dinQ (k := kN pn) ?_ (ev_var rfl) (e4 _ _ q2))
          rw [nV_kN]
          exact ev_var rfl
        · intro hb H5 e5
          rw [if_pos (of_decide_eq_true hb)] at q5
          have a2 : Adn K C GlaPlan.markPlace [.ref a, .int (i : Int)] H5 (.int (GlaPlan.markPlace S i : Nat)) := ⟨.ref a, S, i, rfl, id0.mono (e04.trans e5), rfl⟩
          apply s_ret (v := .int (GlaPlan.markPlace S i : Nat))
          · walk_at "ev"
          · intro H6 e6
            have := kq H6 ((e04.trans e5).trans e6)
            rw [q5] at this; exact this
        · intro hb H5 e5
          rw [if_neg (of_decide_eq_false hb)] at q5
          have e45 := e4.trans e5
          refine s_dputN (k := kN pn) (v := .bl true) (by rw [nV_kN]; exact ev_var rfl) (ev_var rfl) ev_c (e45 _ _ q2) (by have := gp.nm; omega) ?_
          intro H6 e6
          refine ⟨putK kvs (kN pn) (.bl true), pn :: had, _, _, _, Ex.mut ((q1.trans e45).trans e6) hg, upd_same, ?_, ?_, q5, rfl⟩
          · have := length_putK kvs (kN pn) (.bl true); omega
          · intro k
            rw [valV_put]
            by_cases hk : k = pn
            · rw [hk, if_pos rfl]; simp
            · rw [if_neg (fun z => hk (kN_inj z)), q4]; simp [hk]
    · rintro σ' H3 ⟨kvs, had, o3, o4, o5, q1, q2, q3, q4, q5, rfl⟩
      have : us.length = L.length := by rw [← hL, List.length_map, hml]; simp [atsOf]
      rw [this, List.drop_length, Geo.dup] at q5
      rw [q5] at kq
      apply s_ret
      · exact ev_c
      · exact fun H4 e4 => kq H4 ((e1.trans q1).trans e4)
end
end Hl
end PHl14

section PHl15
set_option Elab.async false
set_option linter.all false
set_option maxRecDepth 100000
set_option maxHeartbeats 2000000
local macro_rules | `(tactic| walk_at "ev") => `(tactic| (first
  | exact Evl.ev_c
  | exact Evl.ev_var rfl
  | (apply Hl.ev_I0 <;> walk_at "ev")
  | (apply Hl.ev_I <;> walk_at "ev")
  | (apply Hl.ev_ixT <;> walk_at "ev")
  | (apply Hl.ev_ixL <;> walk_at "ev")
  | exact Evl.ea_nil
  | (apply Evl.ea_cons <;> walk_at "ev")
  | (apply Hl.ev_callV <;> first | assumption | walk_at "ev")
  | (apply Hl.ev_eq <;> walk_at "ev")
  | (apply Hl.ev_ne <;> walk_at "ev")
  | (apply Hl.ev_fld <;> first | assumption | walk_at "ev")
  | (apply Hl.ev_lenL <;> first | assumption | walk_at "ev")
  | (apply Hl.ev_chain <;> first | (refine fun (_ : _ = _) => ?_; walk_at "ev") | walk_at "ev")
  | (apply Evl.ev_orV <;> first | (refine fun (_ : _ = _) => ?_; walk_at "ev") | walk_at "ev")
  | (apply Evl.ev_andV <;> first | (refine fun (_ : _ = _) => ?_; walk_at "ev") | walk_at "ev")
  | (apply Evl.ev_notV <;> walk_at "ev")
  | (apply Evl.et_test <;> walk_at "ev")
  | (apply Evl.et_B <;> walk_at "ev")
  | (apply Evl.et_not <;> walk_at "ev")
  | (apply Evl.et_and <;> first | (refine fun (_ : _ = _) => ?_; walk_at "ev") | walk_at "ev")
  | (apply Evl.et_or <;> first | (refine fun (_ : _ = _) => ?_; walk_at "ev") | walk_at "ev")
  | assumption
  | (exact Evl.st_of (by assumption))
  | exact rfl
  | skip))

namespace Hl
open PySem PySem.Spec PyProof.Rows L2 Evl
open GlaPlan (Pt Plan)
theorem _root_.L2.Room.units65 {k : Nat} {A : Around} (r : Room k A) : A.units + 65 < cLine := by have := r.un; omega
/-! ### chosen places -/
def sel {α : Type} (f : α → Bool) (xs : List α) : List Nat := (List.range xs.length).filter fun i => match xs[i]? with
  | some x => f x
  | none => false
def selN {α : Type} (f : α → Bool) (xs : List α) (n : Nat) : List Nat := (List.range n).filter fun i => match xs[i]? with
  | some x => f x
  | none => false
theorem its_isI {us : List V} {xs : List Nat} {H : Hp} (h : Its isI xs us H) : us = xs.map fun (n : Nat) => V.int (n : Int) := by
  apply List.ext_getElem?
  intro i
  rw [List.getElem?_map]
  cases e : xs[i]? with
  | none =>
    rw [List.getElem?_eq_none_iff] at e
    rw [List.getElem?_eq_none (by rw [h.1]; exact e)]; rfl
  | some x =>
    obtain ⟨v, h1, h2⟩ := h.2 i x e
    rw [h1, show v = .int (x : Int) from h2]; rfl
section
variable {K : PySem.W.Frag} {σ : L2.St} {H : Hp} {te0 te : TE} {tt : TT} {vs : List Nat}
theorem ef_lcE {α : Type} {R : α → V → Hp → Prop} (mR : MonoR R) {a : Addr} {us : List V} {xs : List α} (h : Ev te0 σ H (.ref a)) (hq : SqL K H a us) (hI : Its R xs us H) (f : α → Bool) {j1 j2 : Nat} (hn : xs.length ≤ 100000)
    (hw : ∀ x y, wipe (((wipe σ vs).set j1 (some x)).set j2 (some y)) vs = wipe σ vs)
    (ht : ∀ i x v H', xs[i]? = some x → Ex H H' → R x v H' → EvT tt (((wipe σ vs).set j1 (some (.int (i : Nat)))).set j2 (some v)) H' (f x))
    (he : ∀ i v H', Ev te (((wipe σ vs).set j1 (some (.int (i : Nat)))).set j2 (some v)) H' (.int (i : Nat))) :
    EvF (tLc (iEnum K (tCons te0 tNil)) (gTup K 2 (gCons (gName j1) (gCons (gName j2) gNil))) tt te vs) σ H (fun p H' => H' p = some (.lst ((sel f xs).map fun (n : Nat) => V.int (n : Int)))) := by
  have key : EvF (tLc (iEnum K (tCons te0 tNil)) (gTup K 2 (gCons (gName j1) (gCons (gName j2) gNil))) tt te vs) σ H (fun p H' => ∃ us, H' p = some (.lst us) ∧ Its isI (selN f xs xs.length) us H') := by
    intro H1 e1 Q q
    refine ef_lc (R := isI) monoI stabI us.length (by rw [hI.1]; exact hn) (fun i H0 v H0' => ∃ T x, v = .ref T ∧ H0 T = none ∧ H0' = upd H0 T (.tup [.int (i : Nat), x]) ∧ us[i]? = some x) (fun n => selN f xs n) rfl (fun n _ => ?_) ?_ ?_ H1 e1 Q ?_
    · have := List.length_filter_le (fun i => match xs[i]? with | some x => f x | none => false) (List.range n)
      rw [List.length_range] at this; exact this
    · intro H0 e0 Rr hR
      refine h H0 e0 _ fun H2 e2 => ⟨a, us, rfl, ex_l (e0.trans e2) hq, hR _ _ H2 (walk_enum.mono (fun _ z => z) ?_) e2 fun H' e' => ex_l ((e0.trans e2).trans e') hq⟩
      rintro i H3 x H3' _ _ ⟨T, x', y, rfl, hT, rfl, hx, hy⟩
      obtain rfl := Option.some.inj hx
      exact ⟨T, y, rfl, hT, rfl, hy⟩
    · rintro i v H2 H3 e2 hi ⟨T, x, rfl, hT, rfl, hx⟩ Q2 hQ
      obtain ⟨m, hm, r⟩ := hI.get hx
      have eT : Ex H2 (upd H2 T (.tup [.int (i : Nat), x])) := Ex.new hT
      refine g_pair upd_same (hQ _ _ eT (hw _ _) ?_)
      have hsel : selN f xs (i + 1) = selN f xs i ++ if f m = true then [i] else [] := by
        rw [selN, List.range_succ, List.filter_append]
        congr 1
        simp only [List.filter_cons, hm, List.filter_nil]
      have hte := ht i m x _ hm (e2.trans eT) (mR _ _ _ _ (e2.trans eT) r)
      cases hf : f m with
      | true =>
        rw [hf] at hte hsel
        exact .inl ⟨i, hte, er_ev (he i x _) fun _ _ => rfl, by rw [hsel, if_pos rfl]⟩
      | false =>
        rw [hf] at hte hsel
        exact .inr ⟨hte, by rw [hsel, if_neg Bool.false_ne_true, List.append_nil]⟩
    · rintro p H2 hp e2 ⟨us', h1, h2⟩
      exact q p H2 hp e2 ⟨us', h1, by rw [← hI.1]; exact h2⟩
  intro H1 e1 Q q
  refine key H1 e1 Q fun p H2 hp e2 r => q p H2 hp e2 ?_
  obtain ⟨us', h1, h2⟩ := r
  rw [its_isI h2] at h1
  exact h1
theorem ef_lst4 {t1 t2 t3 t4 : TE} {l1 l2 l3 l4 : List V} (h1 : EvF t1 σ H (fun p H' => H' p = some (.lst l1))) (h2 : EvF t2 σ H (fun p H' => H' p = some (.lst l2))) (h3 : EvF t3 σ H (fun p H' => H' p = some (.lst l3))) (h4 : EvF t4 σ H (fun p H' => H' p = some (.lst l4))) :
    EvF (tLst (tCons t1 (tCons t2 (tCons t3 (tCons t4 tNil))))) σ H (fun p H' => ∃ p1 p2 p3 p4, H' p = some (.lst [.ref p1, .ref p2, .ref p3, .ref p4]) ∧ H' p1 = some (.lst l1) ∧ H' p2 = some (.lst l2) ∧ H' p3 = some (.lst l3) ∧ H' p4 = some (.lst l4)) := fun H0 e0 Q q =>
  h1 H0 e0 _ fun p1 H1 _ e1 r1 => h2 H1 (e0.trans e1) _ fun p2 H2 _ e2 r2 => h3 H2 ((e0.trans e1).trans e2) _ fun p3 H3 _ e3 r3 => h4 H3 (((e0.trans e1).trans e2).trans e3) _ fun p4 H4 _ e4 r4 => by
    refine ⟨sz_of (by simp), fun p hp => ?_⟩
    have e := Ex.new (o := .lst [.ref p1, .ref p2, .ref p3, .ref p4]) hp
    refine q p _ (fresh_back (e1.trans (e2.trans (e3.trans e4))) hp) ((e1.trans (e2.trans (e3.trans e4))).trans e) ⟨p1, p2, p3, p4, upd_same, e _ _ ((e2.trans (e3.trans e4)) _ _ r1), e _ _ ((e3.trans e4) _ _ r2), e _ _ (e4 _ _ r3), e _ _ r4⟩
end
def edgesOf (S : Plan) : List (List Nat) := [sel (fun p : Pt => p.y == 0) S.pts, sel (fun p : Pt => p.x == 0) S.pts, sel (fun p : Pt => p.x == S.w) S.pts, sel (fun p : Pt => p.y == S.h) S.pts]
section
variable {P : Program} {w : World} {K : PySem.W.Frag} {mg : Str → Option Value} {base : Heap} {C : Addr}
def Aer (K : PySem.W.Frag) (C : Addr) : List V → Hp → (V → Hp → Prop) → Prop := fun vs H R => ∃ (x : V) (S : Plan), vs = [x] ∧ isDr K C S x H ∧ S.pts.length ≤ 70000 ∧ R = isG K (edgesOf S)
theorem Aer.mono : Mono (Aer K C) := fun vs H H' v e ⟨x, S, h, h1, h2⟩ => ⟨x, S, h, h1.mono e, h2⟩
abbrev s_edge_rows : Stmt := topS 66
abbrev N_edge_rows : List Str := ["drawing", "points", "i", "point"]
theorem sc_edge_rows : FnScope N_edge_rows ["drawing"] (defScope s_edge_rows) := ⟨rfl, rfl, rfl, by decide +kernel, rfl, by decide +kernel, by decide +kernel⟩
theorem k_edge_rows (T : Txt K mg) (D : DrC K C) (F : Dfn K mg "edge_rows" s_edge_rows ["drawing"]) : Cal P w K mg base 1 "edge_rows" (spR (Aer K C)) := by
  refine mk_R F sc_edge_rows (fun vs H v h => by obtain ⟨_, _, rfl, _⟩ := h; rfl) (fun f cdv A' outer s H vs E v hr a => ?_)
  obtain ⟨x, S, rfl, id, np, rfl⟩ := a
  obtain ⟨a, dx, fs, vp, vl, vm, rfl, h2, f1, f2, f3, f4, f5, ⟨lp, us, rfl, hp, ip⟩, il, im⟩ := id
  have cl := D.cl
  have n1 := D.n1
  have n2 := D.n2
  have n3 := D.n3
  refine ⟨_, (pss_cons (ps_set (i := 1) sc_edge_rows.nd rfl (Or.inl rfl) (pe_fld (pv 0) rfl))
      (pss_one (ps_ret (pe_lst (pa_cons (pe_lc (own := [("i", 2), ("point", 3)]) (by rfl) sc_edge_rows.nd (pi_enum (by rfl) T.enumerate (pa_cons (pv 1) pa_nil)) (blkOk_by (own := [("i", 2), ("point", 3)]) (N := N_edge_rows) (sc := defScope s_edge_rows) (by decide +kernel)) (fun _ _ _ _ _ => (pg_tupK (K := K) (n := 2) rfl (by rfl) (pgs_cons (pg_name (i := 2) sc_edge_rows.nd rfl (Or.inl rfl)) (pgs_cons (pg_name (i := 3) sc_edge_rows.nd rfl (Or.inl rfl)) pgs_nil)))) (fun _ _ _ _ _ => (pts_one (pt_cmpR op_eq (pe_ix (ix_tupK (K := K) rfl) (pv 3) pe_int (fun _ _ => rfl)) pe_int (nomark _)))) (fun _ _ _ _ _ => (pv 2))) (pa_cons (pe_lc (own := [("i", 2), ("point", 3)]) (by rfl) sc_edge_rows.nd (pi_enum (by rfl) T.enumerate (pa_cons (pv 1) pa_nil)) (blkOk_by (own := [("i", 2), ("point", 3)]) (N := N_edge_rows) (sc := defScope s_edge_rows) (by decide +kernel)) (fun _ _ _ _ _ => (pg_tupK (K := K) (n := 2) rfl (by rfl) (pgs_cons (pg_name (i := 2) sc_edge_rows.nd rfl (Or.inl rfl)) (pgs_cons (pg_name (i := 3) sc_edge_rows.nd rfl (Or.inl rfl)) pgs_nil)))) (fun _ _ _ _ _ => (pts_one (pt_cmpR op_eq (pe_ix (ix_tupK (K := K) rfl) (pv 3) pe_int (fun _ _ => rfl)) pe_int (nomark _)))) (fun _ _ _ _ _ => (pv 2))) (pa_cons (pe_lc (own := [("i", 2), ("point", 3)]) (by rfl) sc_edge_rows.nd (pi_enum (by rfl) T.enumerate (pa_cons (pv 1) pa_nil)) (blkOk_by (own := [("i", 2), ("point", 3)]) (N := N_edge_rows) (sc := defScope s_edge_rows) (by decide +kernel)) (fun _ _ _ _ _ => (pg_tupK (K := K) (n := 2) rfl (by rfl) (pgs_cons (pg_name (i := 2) sc_edge_rows.nd rfl (Or.inl rfl)) (pgs_cons (pg_name (i := 3) sc_edge_rows.nd rfl (Or.inl rfl)) pgs_nil)))) (fun _ _ _ _ _ => (pts_one (pt_cmpR op_eq (pe_ix (ix_tupK (K := K) rfl) (pv 3) pe_int (fun _ _ => rfl)) (pe_fldK (K := K) rfl (pv 0) rfl) (nomark _)))) (fun _ _ _ _ _ => (pv 2))) (pa_cons (pe_lc (own := [("i", 2), ("point", 3)]) (by rfl) sc_edge_rows.nd (pi_enum (by rfl) T.enumerate (pa_cons (pv 1) pa_nil)) (blkOk_by (own := [("i", 2), ("point", 3)]) (N := N_edge_rows) (sc := defScope s_edge_rows) (by decide +kernel)) (fun _ _ _ _ _ => (pg_tupK (K := K) (n := 2) rfl (by rfl) (pgs_cons (pg_name (i := 2) sc_edge_rows.nd rfl (Or.inl rfl)) (pgs_cons (pg_name (i := 3) sc_edge_rows.nd rfl (Or.inl rfl)) pgs_nil)))) (fun _ _ _ _ _ => (pts_one (pt_cmpR op_eq (pe_ix (ix_tupK (K := K) rfl) (pv 3) pe_int (fun _ _ => rfl)) (pe_fldK (K := K) rfl (pv 0) rfl) (nomark _)))) (fun _ _ _ _ _ => (pv 2))) pa_nil)))))))), fun Q kq => ?_⟩
  apply q_asg
  · walk_at "ev"
  · intro H1 e1
    have hp1 := ex_l e1 hp
    have ip1 := ip.mono monoPt e1
    apply s_retF
    · refine ef_lst4 (l1 := (sel (fun p : Pt => p.y == 0) S.pts).map fun (n : Nat) => V.int (n : Int)) (l2 := (sel (fun p : Pt => p.x == 0) S.pts).map fun (n : Nat) => V.int (n : Int)) (l3 := (sel (fun p : Pt => p.x == S.w) S.pts).map fun (n : Nat) => V.int (n : Int)) (l4 := (sel (fun p : Pt => p.y == S.h) S.pts).map fun (n : Nat) => V.int (n : Int)) ?_ ?_ ?_ ?_
      · refine ef_lcE monoPt (ev_var rfl) hp1 ip1 _ (by omega) (fun _ _ => rfl) ?_ (fun i v H' => ev_var rfl)
        rintro i p v H2 hx e2 ⟨hpb, av, rfl, hv⟩
        refine et_is (a := decide (V.int (p.y : Int) = .int 0)) ?_ (by rw [Bool.eq_iff_iff]; simp <;> omega)
        walk_at "ev"
      · refine ef_lcE monoPt (ev_var rfl) hp1 ip1 _ (by omega) (fun _ _ => rfl) ?_ (fun i v H' => ev_var rfl)
        rintro i p v H2 hx e2 ⟨hpb, av, rfl, hv⟩
        refine et_is (a := decide (V.int (p.x : Int) = .int 0)) ?_ (by rw [Bool.eq_iff_iff]; simp <;> omega)
        walk_at "ev"
      · refine ef_lcE monoPt (ev_var rfl) hp1 ip1 _ (by omega) (fun _ _ => rfl) ?_ (fun i v H' => ev_var rfl)
        rintro i p v H2 hx e2 ⟨hpb, av, rfl, hv⟩
        have h22 := (e1.trans e2) _ _ h2
        refine et_is (a := decide (V.int (p.x : Int) = .int S.w)) ?_ (by rw [Bool.eq_iff_iff]; simp <;> omega)
        walk_at "ev"
      · refine ef_lcE monoPt (ev_var rfl) hp1 ip1 _ (by omega) (fun _ _ => rfl) ?_ (fun i v H' => ev_var rfl)
        rintro i p v H2 hx e2 ⟨hpb, av, rfl, hv⟩
        have h22 := (e1.trans e2) _ _ h2
        refine et_is (a := decide (V.int (p.y : Int) = .int S.h)) ?_ (by rw [Bool.eq_iff_iff]; simp <;> omega)
        walk_at "ev"
    · rintro p H2 hp2 e2 ⟨p1, p2, p3, p4, r, r1, r2, r3, r4⟩
      refine kq _ H2 (e1.trans e2) ⟨p, _, rfl, sq_of r, rfl, fun i l hl => ?_⟩
      match i, hl with
      | 0, hl => obtain rfl := Option.some.inj hl; exact ⟨_, rfl, p1, _, rfl, sq_of r1, its_ints _⟩
      | 1, hl => obtain rfl := Option.some.inj hl; exact ⟨_, rfl, p2, _, rfl, sq_of r2, its_ints _⟩
      | 2, hl => obtain rfl := Option.some.inj hl; exact ⟨_, rfl, p3, _, rfl, sq_of r3, its_ints _⟩
      | 3, hl => obtain rfl := Option.some.inj hl; exact ⟨_, rfl, p4, _, rfl, sq_of r4, its_ints _⟩
end
end Hl
end PHl15

section PHl16
set_option Elab.async false
set_option linter.all false
set_option maxRecDepth 100000
set_option maxHeartbeats 2000000
local macro_rules | `(tactic| walk_at "ev") => `(tactic| (first
  | exact Evl.ev_c
  | exact Evl.ev_var rfl
  | (apply Hl.ev_I0 <;> walk_at "ev")
  | (apply Hl.ev_I <;> walk_at "ev")
  | (apply Hl.ev_ixT <;> walk_at "ev")
  | (apply Hl.ev_ixL <;> walk_at "ev")
  | exact Evl.ea_nil
  | (apply Evl.ea_cons <;> walk_at "ev")
  | (apply Hl.ev_callV <;> first | assumption | walk_at "ev")
  | (apply Hl.ev_eq <;> walk_at "ev")
  | (apply Hl.ev_ne <;> walk_at "ev")
  | (apply Hl.ev_fld <;> first | assumption | walk_at "ev")
  | (apply Hl.ev_lenL <;> first | assumption | walk_at "ev")
  | (apply Hl.ev_chain <;> first | (refine fun (_ : _ = _) => ?_; walk_at "ev") | walk_at "ev")
  | (apply Evl.ev_orV <;> first | (refine fun (_ : _ = _) => ?_; walk_at "ev") | walk_at "ev")
  | (apply Evl.ev_andV <;> first | (refine fun (_ : _ = _) => ?_; walk_at "ev") | walk_at "ev")
  | (apply Evl.ev_notV <;> walk_at "ev")
  | (apply Evl.et_test <;> walk_at "ev")
  | (apply Evl.et_B <;> walk_at "ev")
  | (apply Evl.et_not <;> walk_at "ev")
  | (apply Evl.et_and <;> first | (refine fun (_ : _ = _) => ?_; walk_at "ev") | walk_at "ev")
  | (apply Evl.et_or <;> first | (refine fun (_ : _ = _) => ?_; walk_at "ev") | walk_at "ev")
  | assumption
  | (exact Evl.st_of (by assumption))
  | exact rfl
  | skip))

namespace Hl
open PySem PySem.Spec PyProof.Rows L2 Evl
open GlaPlan (Pt Plan)
section
variable {K : PySem.W.Frag} {σ : L2.St} {H : Hp} {ta tb te : TE} {D : Ends} {tu tz : TS} {g : TG}
theorem s_forU {xs : List V} {j : Nat} (h : EvU te σ H xs) (I : Nat → L2.St → Prop) (h0 : I 0 σ)
    (hs : ∀ Hb, Ex H Hb → ∀ i x σ' H', xs[i]? = some x → Ex Hb H' → I i σ' → tu { D with nx := fun σ2 H2 => I (i + 1) σ2 ∧ Ex Hb H2, ct := fun σ2 H2 => I (i + 1) σ2 ∧ Ex Hb H2, bk := D.nx } (σ'.set j (some x)) H') (hd : ∀ σ' H', I xs.length σ' → Ex H H' → D.nx σ' H') : tFor (iTup K te) (gName j) tu D σ H :=
  h H (Ex.refl H) _ fun p H1 hp e h1 => ⟨p, rfl, ⟨xs, st_of h1⟩, for_tup (fun i σ' H' => I i σ' ∧ Ex H1 H') ⟨h0, Ex.refl _⟩ (fun i σ' H' _ q => st_of (q.2 _ _ h1)) (fun i x σ' H' hx q => hs H1 e i x σ' H' hx q.2 q.1) fun σ' H' q => hd σ' H' q.1 (e.trans q.2)⟩
theorem q_forU {xs : List V} {j : Nat} (h : EvU te σ H xs) (I : Nat → L2.St → Prop) (h0 : I 0 σ)
    (hs : ∀ Hb, Ex H Hb → ∀ i x σ' H', xs[i]? = some x → Ex Hb H' → I i σ' → tu { D with nx := fun σ2 H2 => I (i + 1) σ2 ∧ Ex Hb H2, ct := fun σ2 H2 => I (i + 1) σ2 ∧ Ex Hb H2, bk := tz D } (σ'.set j (some x)) H') (hd : ∀ σ' H', I xs.length σ' → Ex H H' → tz D σ' H') : tSeq (tFor (iTup K te) (gName j) tu) tz D σ H := s_forU (D := { D with nx := tz D }) h I h0 hs hd
/-- over a list that a call hands back -/
theorem q_forR {α : Type} {R : α → V → Hp → Prop} (mR : MonoR R) {xs : List α} {j : Nat} (h : EvR te σ H (isL K R xs)) (I : Nat → L2.St → Prop) (h0 : I 0 σ)
    (hs : ∀ Hb, Ex H Hb → ∀ i x v σ' H', xs[i]? = some x → Ex Hb H' → R x v H' → I i σ' → tu { D with nx := fun σ2 H2 => I (i + 1) σ2 ∧ Ex Hb H2, ct := fun σ2 H2 => I (i + 1) σ2 ∧ Ex Hb H2, bk := tz D } (σ'.set j (some v)) H') (hd : ∀ σ' H', I xs.length σ' → Ex H H' → tz D σ' H') : tSeq (tFor (iList K te) (gName j) tu) tz D σ H :=
  h H (Ex.refl H) _ fun v H1 e1 r => by
    obtain ⟨a, us, rfl, hq, hI⟩ := r
    exact ⟨a, rfl, ⟨us, hq⟩, for_list (fun i σ' H' => I i σ' ∧ Ex H1 H') ⟨h0, Ex.refl _⟩ (fun i σ' H' _ q => ex_l q.2 hq) (fun i v σ' H' hv q => by
      obtain ⟨x, hx, r⟩ := hI.get hv
      exact hs H1 e1 i x v σ' H' hx q.2 (mR _ _ _ _ q.2 r) q.1) fun σ' H' q => hd σ' H' (by rw [← hI.1]; exact q.1) (e1.trans q.2)⟩
/-! a pair among points -/
def dP (p : Pt) : PyData := .tuple [.int p.x, .int p.y]
theorem dpAll_its : ∀ (pts : List Pt) (us : List V), Its (isPt K) pts us H → DpAll K H us (pts.map dP)
  | [], us, h => by
    have := List.length_eq_zero_iff.1 h.1
    rw [this]; exact .nil
  | p :: r, us, h => by
    cases us with
    | nil => have := h.1; simp at this
    | cons u us =>
      refine .cons ?_ (dpAll_its r us ⟨by have := h.1; simpa using this, fun i x hx => h.2 (i + 1) x hx⟩)
      obtain ⟨v, h1, h2⟩ := h.2 0 p rfl
      obtain rfl : u = v := by simpa using h1
      obtain ⟨_, a, rfl, ha⟩ := h2
      exact .tup ha (.cons (.int _) (.cons (.int _) .nil))
theorem canLay_pts : ∀ pts : List Pt, PyData.canLayAll0 (pts.map dP) = true
  | [] => rfl
  | p :: r => by
    rw [List.map_cons, PyData.canLayAll0, canLay_pts r]; rfl
theorem depth_pts : ∀ pts : List Pt, PyData.depthAll (pts.map dP) ≤ 1
  | [] => Nat.zero_le _
  | p :: r => by
    rw [List.map_cons, PyData.depthAll]
    have := depth_pts r
    have : (dP p).depth = 1 := rfl
    omega
theorem eqv_pts (x y : Nat) : ∀ pts : List Pt, ((pts.map dP).any fun z => PyData.eqv z (dP ⟨x, y⟩)) = pts.contains ⟨x, y⟩
  | [] => rfl
  | p :: r => by
    rw [List.map_cons, List.any_cons, eqv_pts x y r, List.contains_cons]
    congr 1
    show (((p.x : Int) == (x : Int)) && (((p.y : Int) == (y : Int)) && true)) = _
    rw [Bool.eq_iff_iff]
    simp only [Bool.and_true, Bool.and_eq_true, beq_iff_eq]
    constructor
    · rintro ⟨h1, h2⟩
      cases p; simp at *; omega
    · intro h; rw [← h]; exact ⟨rfl, rfl⟩
theorem ev_niD {lp : Addr} {us : List V} {pts : List Pt} {x y : Nat} (ha : EvU ta σ H [.int (x : Int), .int (y : Int)]) (hb : Ev tb σ H (.ref lp)) (hp : SqL K H lp us) (ip : Its (isPt K) pts us H) : Ev (tOp (rNotInD K) ta tb) σ H (.bl (!pts.contains ⟨x, y⟩)) := fun H1 e Q q =>
  ha H1 e _ fun a H2 _ e2 h2 => hb H2 (e.trans e2) _ fun H3 e3 => by
    refine ⟨dP ⟨x, y⟩, pts.map dP, .tup (st_of (e3 _ _ h2)) (.cons (.int _) (.cons (.int _) .nil)), .lst (ex_l ((e.trans e2).trans e3) hp) (dpAll_its pts us (ip.mono monoPt ((e.trans e2).trans e3))), rfl, ?_, ?_⟩
    · have h1 := canLay_pts pts
      have h2 := depth_pts pts
      unfold SeqAt.shaped
      rw [Bool.and_eq_true]
      refine ⟨h1, decide_eq_true ?_⟩
      show PyData.depthAll (pts.map dP) + 1 ≤ 64
      omega
    · rw [eqv_pts]; exact q H3 (e2.trans e3)
end
/-! ### the frame -/
def crn (S : Plan) (x : Nat) : Bool := S.pts.contains ⟨x, 0⟩ && S.pts.contains ⟨x, S.h⟩
def rowIn (S : Plan) (l : List Nat) : Bool := (l.zip (l.drop 1)).all fun q => decide (q ∈ S.lines)
def fFrame (S : Plan) : Option Nat := if ((crn S 0 && crn S S.w) && (edgesOf S).all (rowIn S)) = true then none else some 20
section
variable {P : Program} {w : World} {K : PySem.W.Frag} {mg : Str → Option Value} {base : Heap} {C : Addr}
def Gf (S : Plan) : Prop := S.pts.length ≤ 70000 ∧ S.lines.length ≤ 70000
abbrev s_frame_fault : Stmt := topS 67
abbrev N_frame_fault : List Str := ["drawing", "x", "y", "joined", "line", "row", "pair"]
theorem sc_frame_fault : FnScope N_frame_fault ["drawing"] (defScope s_frame_fault) := ⟨rfl, rfl, rfl, by decide +kernel, rfl, by decide +kernel, by decide +kernel⟩
theorem k_frame_fault (T : Txt K mg) (D : DrC K C) (F : Dfn K mg "frame_fault" s_frame_fault ["drawing"]) (c_edge_rows : Cal P w K mg base 1 "edge_rows" (spR (Aer K C))) : Cal P w K mg base 2 "frame_fault" (spV (Ado K C Gf fun S => opV (fFrame S))) := by
  refine mk_V F sc_frame_fault (fun vs H v h => h.len) (fun f cdv A' outer s H vs E v hr a => ?_)
  obtain ⟨x, S, rfl, id, ⟨np, nl⟩, rfl⟩ := a
  have id0 := id
  obtain ⟨a, dx, fs, vp, vl, vm, rfl, h2, f1, f2, f3, f4, f5, ⟨lp, us, rfl, hp, ip⟩, ⟨ll, ul, rfl, hl, il⟩, im⟩ := id
  have cl := D.cl
  have n1 := D.n1
  have n2 := D.n2
  have n3 := D.n3
  have n4 := D.n4
  refine ⟨_, (pss_cons (ps_for PassesOwn.never rfl (pi_tup (pe_tup (pa_cons pe_int (pa_cons (pe_fld (pv 0) rfl) pa_nil)))) (pg_name (i := 1) sc_frame_fault.nd rfl (Or.inl rfl))
        (pss_one (ps_for PassesOwn.never rfl (pi_tup (pe_tup (pa_cons pe_int (pa_cons (pe_fld (pv 0) rfl) pa_nil)))) (pg_name (i := 2) sc_frame_fault.nd rfl (Or.inl rfl))
        (pss_one (ps_if (pt_cmpR (op_notInD hr.units65) (pe_tup (pa_cons (pv 1) (pa_cons (pv 2) pa_nil))) (pe_fld (pv 0) rfl) rfl) (pss_one (ps_ret (pe_gc (by rfl) T.g_HEAD_SIZE))) pss_nil)))))
      (pss_cons (ps_set (i := 3) sc_frame_fault.nd rfl (Or.inl rfl) pe_dnewT)
      (pss_cons (ps_for PassesOwn.never rfl (pi_list (pe_fld (pv 0) rfl)) (pg_name (i := 4) sc_frame_fault.nd rfl (Or.inl rfl))
        (pss_one (ps_dput (hu_of hr) (pv 3) (pv 4) pe_bl rfl)))
      (pss_cons (ps_for PassesOwn.never rfl (pi_list (pe_c c_edge_rows hr (by decide) (by rfl) (pa_cons (pv 0) pa_nil))) (pg_name (i := 5) sc_frame_fault.nd rfl (Or.inl rfl))
        (pss_one (ps_for PassesOwn.never rfl (pi_zipN (by rfl) T.zip (pa_cons (pv 5) (pa_cons (pe_slice sl_list (pv 5) (po_some pe_int) po_none) pa_nil))) (pg_name (i := 6) sc_frame_fault.nd rfl (Or.inl rfl))
        (pss_one (ps_if (pt_cmp (pc_dnotin (hu_of hr) (pv 6) (pv 3)) rfl) (pss_one (ps_ret (pe_gc (by rfl) T.g_HEAD_SIZE))) pss_nil)))))
      (pss_one (ps_ret pe_non)))))), fun Q kq => ?_⟩
  replace kq : ∀ H', Ex H H' → Q (opV (fFrame S)) H' := kq
  have bad : ∀ H', Ex H H' → ((crn S 0 && crn S S.w) && (edgesOf S).all (rowIn S)) = false → Q (.int 20) H' := fun H' e hb => by
    have := kq H' e
    rw [fFrame, hb, if_neg Bool.false_ne_true] at this; exact this
  refine q_forU (xs := [.int (0 : Nat), .int S.w]) ?_ (fun i σ' => (∀ x ∈ [0, S.w].take i, crn S x = true) ∧ ∃ o1 o2, σ' = [some (.ref a), o1, o2, none, none, none, none]) ⟨by simp, none, none, rfl⟩ ?_ ?_
  · apply eu_tup
    · walk_at "ev"
    · simp
  · rintro Hb eb i xv σ' H1 hx e1 ⟨hc, o1, o2, rfl⟩
    have e01 := eb.trans e1
    obtain ⟨xn, hxn, hxm, rfl⟩ : ∃ xn : Nat, [0, S.w][i]? = some xn ∧ xn ∈ [0, S.w] ∧ xv = .int (xn : Int) := by
      match i, hx with
      | 0, hx => exact ⟨0, rfl, by simp, (Option.some.inj hx).symm⟩
      | 1, hx => exact ⟨S.w, rfl, by simp, (Option.some.inj hx).symm⟩
    have et : [0, S.w].take (i + 1) = [0, S.w].take i ++ [xn] := by rw [List.take_add_one, hxn]; rfl
    have h21 := e01 _ _ h2
    refine s_forU (xs := [.int (0 : Nat), .int S.h]) ?_ (fun k σ' => (∀ y ∈ [0, S.h].take k, S.pts.contains ⟨xn, y⟩ = true) ∧ ∃ o2, σ' = [some (.ref a), some (.int (xn : Int)), o2, none, none, none, none]) ⟨by simp, o2, rfl⟩ ?_ ?_
    · apply eu_tup
      · walk_at "ev"
      · simp
    · rintro Hc ec k yv σ' H2 hy e2 ⟨hd, o2, rfl⟩
      have e02 := (e01.trans ec).trans e2
      obtain ⟨yn, hyn, hym, rfl⟩ : ∃ yn : Nat, [0, S.h][k]? = some yn ∧ yn ∈ [0, S.h] ∧ yv = .int (yn : Int) := by
        match k, hy with
        | 0, hy => exact ⟨0, rfl, by simp, (Option.some.inj hy).symm⟩
        | 1, hy => exact ⟨S.h, rfl, by simp, (Option.some.inj hy).symm⟩
      have et2 : [0, S.h].take (k + 1) = [0, S.h].take k ++ [yn] := by rw [List.take_add_one, hyn]; rfl
      have h22 := e02 _ _ h2
      apply s_when (b := !S.pts.contains ⟨xn, yn⟩)
      · apply et_test
        refine ev_niD (eu_tup ?_ (by simp)) ?_ (ex_l e02 hp) (ip.mono monoPt e02)
        · walk_at "ev"
        · walk_at "ev"
      · intro hb H3 e3
        apply s_ret (v := .int 20)
        · exact ev_c
        · intro H4 e4
          refine bad H4 ((e02.trans e3).trans e4) ?_
          have hcr : crn S xn = false := by
            rw [crn]
            have : S.pts.contains ⟨xn, yn⟩ = false := by simpa using hb
            rcases (show yn = 0 ∨ yn = S.h by simpa using hym) with z | z
            · rw [z] at this; rw [this]; rfl
            · rw [z] at this; rw [this, Bool.and_false]
          rcases (show xn = 0 ∨ xn = S.w by simpa using hxm) with z | z
          · rw [z] at hcr; rw [hcr]; rfl
          · rw [z] at hcr; rw [hcr, Bool.and_false]; rfl
      · intro hb H3 e3
        refine ⟨⟨?_, _, rfl⟩, e2.trans e3⟩
        rw [et2]
        intro y hy
        rcases List.mem_append.1 hy with z | z
        · exact hd y z
        · rw [List.mem_singleton.1 z]; simpa using hb
    · rintro σ' H2 ⟨hd, o2, rfl⟩ e2
      refine ⟨⟨?_, _, _, rfl⟩, e1.trans e2⟩
      rw [et]
      intro x hx
      rcases List.mem_append.1 hx with z | z
      · exact hc x z
      · rw [List.mem_singleton.1 z, crn, hd 0 (by simp), hd S.h (by simp)]; rfl
  · rintro σ' H1 ⟨hc, o1, o2, rfl⟩ e1
    have hcc : (crn S 0 && crn S S.w) = true := by rw [hc 0 (by simp), hc S.w (by simp)]; rfl
    rw [hcc, Bool.true_and] at bad
    apply q_asgF ef_dnewT
    intro g H2 hg e2 hg2
    have e02 := e1.trans e2
    have h22 := e02 _ _ h2
    have hHg : H g = none := fresh_back e1 hg
    refine q_forLn (a := ll) (xs := ul) ?_ (ex_l e02 hl) (fun i σ' H' => ∃ o4, Ex H1 H' ∧ isDT H' g (fun q => if q ∈ S.lines.take i then some (.bl true) else none) ∧ σ' = [some (.ref a), o1, o2, some (.ref g), o4, none, none]) ?_ ?_ ?_ ?_
    · walk_at "ev"
    · intro H3 e3
      refine ⟨none, e2.trans e3, ?_, rfl⟩
      have := isDT.nil (e3 _ _ hg2)
      simpa using this
    · rintro i σ' H' hi ⟨o4, q1, _⟩
      exact ex_l (e1.trans q1) hl
    · rintro i u σ' H3 hu ⟨o4, q1, q2, rfl⟩
      obtain ⟨l, hx, il2⟩ := il.get hu
      have et : S.lines.take (i + 1) = S.lines.take i ++ [l] := by rw [List.take_add_one, hx]; rfl
      obtain ⟨bl, rfl, hbl⟩ := il2
      refine s_dput (p := l) S.lines (ev_var rfl) (ev_var rfl) ev_c q2 ((e1.trans q1) _ _ hbl) ?_ (by omega) ?_
      · intro q hq
        refine List.mem_of_mem_take (i := i) ?_
        refine Classical.byContradiction fun h => ?_
        rw [if_neg h] at hq; cases hq
      · intro H4 ob e4 hd
        refine ⟨_, Ex.mut (q1.trans e4) hg, ?_, rfl⟩
        have ef : (fun q => if q = l then some (V.bl true) else if q ∈ S.lines.take i then some (.bl true) else none) = fun q => if q ∈ S.lines.take (i + 1) then some (.bl true) else none := by
          funext q
          rw [et]
          by_cases z : q = l
          · rw [if_pos z, if_pos (by simp [z])]
          · rw [if_neg z]
            congr 1
            simp [z]
        rw [← ef]; exact hd
    · rintro σ' H3 ⟨o4, q1, q2, rfl⟩
      rw [il.1, List.take_length] at q2
      have e03 := e1.trans q1
      have h23 := e03 _ _ h2
      refine q_forR (R := isL K isI) monoLI (xs := edgesOf S) (er_callR Aer.mono (vs := [.ref a]) (ea_cons (ev_var rfl) ea_nil) ⟨.ref a, S, rfl, id0.mono e03, np, rfl⟩) (fun i σ' => (∀ l ∈ (edgesOf S).take i, rowIn S l = true) ∧ ∃ o5 o6, σ' = [some (.ref a), o1, o2, some (.ref g), o4, o5, o6]) ⟨by simp, none, none, rfl⟩ ?_ ?_
      · rintro Hb eb i row v σ' H4 hx e4 ir ⟨hc2, o5, o6, rfl⟩
        obtain ⟨ra, rus, rfl, hr, ih⟩ := ir
        have e34 := eb.trans e4
        have e04 := e03.trans e34
        obtain rfl := its_isI ih
        have et : (edgesOf S).take (i + 1) = (edgesOf S).take i ++ [row] := by rw [List.take_add_one, hx]; rfl
        have hrl : row.length ≤ 70000 := by
          have : row ∈ edgesOf S := List.mem_of_getElem? hx
          have hs : ∀ f : Pt → Bool, (sel f S.pts).length ≤ S.pts.length := fun f => by
            unfold sel
            exact Nat.le_trans (List.length_filter_le _ _) (by simp)
          rcases (show row = _ ∨ row = _ ∨ row = _ ∨ row = _ by simpa [edgesOf] using this) with z | z | z | z <;> (rw [z]; exact Nat.le_trans (hs _) np)
        refine s_zipN (a := ra) (ys := (row.drop 1).map fun (n : Nat) => V.int (n : Int)) (ev_var rfl) hr ?_ ?_
        · have c1 : (row.drop 1).map (fun (n : Nat) => V.int (n : Int)) = cutV (row.map fun (n : Nat) => V.int (n : Int)) (some ((1 : Nat) : Int)) none := by rw [cut_from, List.map_drop]
          rw [c1]
          exact el_sl (ev_var rfl) (eo_some ev_c) eo_none hr
        · intro b H5 hb5 e5 hbb5
          refine ⟨fun k σ' H' => Ex H5 H' ∧ (∀ q ∈ (row.zip (row.drop 1)).take k, q ∈ S.lines) ∧ ∃ o6, σ' = [some (.ref a), o1, o2, some (.ref g), o4, some (.ref ra), o6], ⟨Ex.refl _, by simp, o6, rfl⟩, ?_, ?_, ?_⟩
          · rintro k σ' H' ⟨d1, _⟩
            exact ⟨ex_l (e5.trans d1) hr, sq_of (d1 _ _ hbb5)⟩
          · rintro k x y T σ' H6 hx hy ⟨d1, d2, o6, rfl⟩ hT
            rw [List.getElem?_map] at hx hy
            obtain ⟨n1, hn1, rfl⟩ := Option.map_eq_some_iff.1 hx
            obtain ⟨n2, hn2, rfl⟩ := Option.map_eq_some_iff.1 hy
            have hz : (row.zip (row.drop 1))[k]? = some (n1, n2) := zip_get hn1 hn2
            have eT : Ex H6 (upd H6 T (.tup [.int (n1 : Int), .int (n2 : Int)])) := Ex.new hT
            have e36 := (e34.trans e5).trans (d1.trans eT)
            apply s_when (b := !((fun q => if q ∈ S.lines then some (V.bl true) else none) (n1, n2)).isSome)
            · exact et_B (ev_dnotin (p := (n1, n2)) (ev_var rfl) (ev_var rfl) (q2.mono e36) upd_same)
            · intro hb H7 e7
              apply s_ret (v := .int 20)
              · exact ev_c
              · intro H8 e8
                refine bad H8 (((e03.trans e36).trans e7).trans e8) ?_
                have hn : (n1, n2) ∉ S.lines := by
                  intro h; simp [h] at hb
                have : rowIn S row = false := by
                  rw [rowIn, List.all_eq_false]
                  exact ⟨(n1, n2), List.mem_of_getElem? hz, by simpa using hn⟩
                rw [List.all_eq_false]
                exact ⟨row, List.mem_of_getElem? ‹(edgesOf S)[i]? = some row›, by rw [this]; exact Bool.false_ne_true⟩
            · intro hb H7 e7
              have hn : (n1, n2) ∈ S.lines := by
                refine Classical.byContradiction fun h => ?_
                simp [h] at hb
              refine ⟨(d1.trans eT).trans e7, ?_, _, rfl⟩
              have : (row.zip (row.drop 1)).take (k + 1) = (row.zip (row.drop 1)).take k ++ [(n1, n2)] := by rw [List.take_add_one, hz]; rfl
              rw [this]
              intro q hq
              rcases List.mem_append.1 hq with z | z
              · exact d2 q z
              · rw [List.mem_singleton.1 z]; exact hn
          · rintro σ' H6 ⟨d1, d2, o6, rfl⟩
            refine ⟨⟨?_, _, _, rfl⟩, (e4.trans e5).trans d1⟩
            have hm : min (row.map fun (n : Nat) => V.int (n : Int)).length ((row.drop 1).map fun (n : Nat) => V.int (n : Int)).length = (row.zip (row.drop 1)).length := by simp
            rw [hm, List.take_length] at d2
            rw [et]
            intro l hl
            rcases List.mem_append.1 hl with z | z
            · exact hc2 l z
            · rw [List.mem_singleton.1 z, rowIn, List.all_eq_true]
              exact fun q hq => decide_eq_true (d2 q hq)
      · rintro σ' H4 ⟨hc2, o5, o6, rfl⟩ e4
        rw [List.take_length] at hc2
        have hall : (edgesOf S).all (rowIn S) = true := List.all_eq_true.2 hc2
        rw [fFrame, hcc, hall] at kq
        apply s_ret
        · exact ev_c
        · exact fun H5 e5 => kq H5 ((e03.trans e4).trans e5)
end
end Hl
end PHl16

section PHl17
set_option Elab.async false
set_option linter.all false
set_option maxRecDepth 100000
set_option maxHeartbeats 2000000
local macro_rules | `(tactic| walk_at "ev") => `(tactic| (first
  | exact Evl.ev_c
  | exact Evl.ev_var rfl
  | (apply Hl.ev_I0 <;> walk_at "ev")
  | (apply Hl.ev_I <;> walk_at "ev")
  | (apply Hl.ev_ixT <;> walk_at "ev")
  | (apply Hl.ev_ixL <;> walk_at "ev")
  | exact Evl.ea_nil
  | (apply Evl.ea_cons <;> walk_at "ev")
  | (apply Hl.ev_callV <;> first | assumption | walk_at "ev")
  | (apply Hl.ev_eq <;> walk_at "ev")
  | (apply Hl.ev_ne <;> walk_at "ev")
  | (apply Hl.ev_fld <;> first | assumption | walk_at "ev")
  | (apply Hl.ev_lenL <;> first | assumption | walk_at "ev")
  | (apply Hl.ev_chain <;> first | (refine fun (_ : _ = _) => ?_; walk_at "ev") | walk_at "ev")
  | (apply Evl.ev_orV <;> first | (refine fun (_ : _ = _) => ?_; walk_at "ev") | walk_at "ev")
  | (apply Evl.ev_andV <;> first | (refine fun (_ : _ = _) => ?_; walk_at "ev") | walk_at "ev")
  | (apply Evl.ev_notV <;> walk_at "ev")
  | (apply Evl.et_test <;> walk_at "ev")
  | (apply Evl.et_B <;> walk_at "ev")
  | (apply Evl.et_not <;> walk_at "ev")
  | (apply Evl.et_and <;> first | (refine fun (_ : _ = _) => ?_; walk_at "ev") | walk_at "ev")
  | (apply Evl.et_or <;> first | (refine fun (_ : _ = _) => ?_; walk_at "ev") | walk_at "ev")
  | assumption
  | (exact Evl.st_of (by assumption))
  | exact rfl
  | skip))

namespace Hl
open PySem PySem.Spec PyProof.Rows L2 Evl
open GlaPlan (Pt Plan)
/-! ### rules 1 to 3 -/
def hbs : List (Nat × Nat × Nat × Nat) := [(4, 4, 16, 1048575), (8, 4, 16, 1048575), (12, 2, 4, 4096), (14, 2, 4, 8192), (16, 2, 1, 2048), (18, 2, 0, 0)]
structure Txt2 (K : PySem.W.Frag) (mg : Str → Option Value) : Prop where
  g_SIGN : ∃ a, mg "SIGN" = some (.ref a) ∧ ∀ H, SqT K H a [.int 71, .int 76, .int 65, .int 49]
  g_HEAD_BOUNDS : ∃ (a : Addr) (us : List V), mg "HEAD_BOUNDS" = some (.ref a) ∧ (∀ H, SqT K H a us) ∧ us.length = 6 ∧ ∀ (i : Nat) (q : Nat × Nat × Nat × Nat), hbs[i]? = some q → ∃ a', us[i]? = some (.ref a') ∧ ∀ H, SqT K H a' [.int (q.1 : Int), .int (q.2.1 : Int), .int (q.2.2.1 : Int), .int (q.2.2.2 : Int)]
def badHd (b : List UInt8) (q : Nat × Nat × Nat × Nat) : Bool := decide (GlaBase.num b q.1 q.2.1 < q.2.2.1) || decide (q.2.2.2 < GlaBase.num b q.1 q.2.1)
def fSign (b : List UInt8) : Option Nat := if b.length < 20 then some b.length else if b.take 4 = GlaPlan.MAGIC then none else some 0
def fHead (b : List UInt8) : Option Nat := (hbs.find? (badHd b)).map fun q => q.1
def fSize (b : List UInt8) : Option Nat := if b.length = sizeAt b then none else some 20
theorem find_dropG {α : Type} {p : α → Bool} {l : List α} {i : Nat} {x : α} (h : l[i]? = some x) : (l.drop i).find? p = if p x = true then some x else (l.drop (i + 1)).find? p := by
  obtain ⟨h1, h2⟩ := List.getElem?_eq_some_iff.1 h
  rw [List.drop_eq_getElem_cons h1, h2, List.find?_cons]
  cases p x <;> rfl
section
variable {P : Program} {w : World} {K : PySem.W.Frag} {mg : Str → Option Value} {base : Heap} {C : Addr}
def Aby (K : PySem.W.Frag) (f : List UInt8 → V) : List V → Hp → V → Prop := fun vs H v => ∃ (x : V) (b : List UInt8), vs = [x] ∧ isBy K b x H ∧ v = f b
theorem Aby.mono {f : List UInt8 → V} : Mono (Aby K f) := fun vs H H' v e ⟨x, b, h, h1, h2⟩ => ⟨x, b, h, h1.mono e, h2⟩
theorem Aby.len {f : List UInt8 → V} {vs : List V} {H : Hp} {v : V} (h : Aby K f vs H v) : vs.length = 1 := by obtain ⟨_, _, rfl, _⟩ := h; rfl
abbrev s_size_fault : Stmt := topS 63
abbrev N_size_fault : List Str := ["cartoon"]
theorem sc_size_fault : FnScope N_size_fault ["cartoon"] (defScope s_size_fault) := ⟨rfl, rfl, rfl, by decide +kernel, rfl, by decide +kernel, by decide +kernel⟩
theorem k_size_fault (T : Txt K mg) (F : Dfn K mg "size_fault" s_size_fault ["cartoon"]) (c_asked_size : Cal P w K mg base 4 "asked_size" (spV (Abyt K sizeAt))) : Cal P w K mg base 5 "size_fault" (spV (Aby K fun b => opV (fSize b))) := by
  refine mk_V F sc_size_fault (fun vs H v h => h.len) (fun f cdv A' outer s H vs E v hr a => ?_)
  obtain ⟨x, b, rfl, ib, rfl⟩ := a
  have m1 : Mono (Abyt K sizeAt) := Abyt.mono
  have a1 : Abyt K sizeAt [x] H (.int (sizeAt b : Nat)) := ⟨x, b, rfl, ib, rfl⟩
  obtain ⟨hb, l, rfl, hl⟩ := ib
  have hbl : (byV b).length = b.length := by rw [byV, List.length_map]
  refine ⟨_, (pss_one (ps_ret (pe_ifExp (pt_cmpR op_eq (pe_callB call_len_seq (by rfl) T.len PySem.boot_len (pa_cons (pv 0) pa_nil)) (pe_c c_asked_size hr (by decide) (by rfl) (pa_cons (pv 0) pa_nil)) (nomark _)) pe_non (pe_gc (by rfl) T.g_HEAD_SIZE)))), fun Q kq => ?_⟩
  replace kq : ∀ H', Ex H H' → Q (opV (fSize b)) H' := kq
  apply s_ret (v := opV (fSize b))
  · apply ev_if (b := decide (V.int ((byV b).length : Int) = .int (sizeAt b : Nat)))
    · walk_at "ev"
    · intro hh
      refine ev_is (v := .non) ev_c ?_
      rw [fSize, if_pos]; · rfl
      · have := of_decide_eq_true hh
        injection this with this
        rw [hbl] at this; omega
    · intro hh
      refine ev_is (v := .int 20) ev_c ?_
      rw [fSize, if_neg]; · rfl
      · intro z
        refine of_decide_eq_false hh ?_
        rw [hbl, z]
  · exact kq
abbrev s_head_fault : Stmt := topS 62
abbrev N_head_fault : List Str := ["cartoon", "place", "size", "least", "most", "number"]
theorem sc_head_fault : FnScope N_head_fault ["cartoon"] (defScope s_head_fault) := ⟨rfl, rfl, rfl, by decide +kernel, rfl, by decide +kernel, by decide +kernel⟩
theorem k_head_fault (T : Txt K mg) (T2 : Txt2 K mg) (F : Dfn K mg "head_fault" s_head_fault ["cartoon"]) (c_number_at : Cal P w K mg base 1 "number_at" (spV (Anum K))) : Cal P w K mg base 2 "head_fault" (spV (Aby K fun b => opV (fHead b))) := by
  refine mk_V F sc_head_fault (fun vs H v h => h.len) (fun f cdv A' outer s H vs E v hr a => ?_)
  obtain ⟨x, b, rfl, ib, rfl⟩ := a
  have m1 : Mono (Anum K) := Anum.mono
  obtain ⟨ah, us, hg, hs, hul, hat⟩ := T2.g_HEAD_BOUNDS
  have hg_HEAD_BOUNDS : ∃ u, mg "HEAD_BOUNDS" = some u ∧ RelV (.ref ah) u := ⟨_, hg, rfl⟩
  refine ⟨_, (pss_cons (ps_for PassesOwn.never rfl (pi_tup (pe_gc (by rfl) hg_HEAD_BOUNDS)) (pg_tup (by rfl) (pgs_cons (pg_name (i := 1) sc_head_fault.nd rfl (Or.inl rfl)) (pgs_cons (pg_name (i := 2) sc_head_fault.nd rfl (Or.inl rfl)) (pgs_cons (pg_name (i := 3) sc_head_fault.nd rfl (Or.inl rfl)) (pgs_cons (pg_name (i := 4) sc_head_fault.nd rfl (Or.inl rfl)) pgs_nil)))))
        (pss_cons (ps_set (i := 5) sc_head_fault.nd rfl (Or.inl rfl) (pe_c c_number_at hr (by decide) (by rfl) (pa_cons (pv 0) (pa_cons (pv 1) (pa_cons (pv 2) pa_nil)))))
      (pss_one (ps_if (PW.pt (pw_or (pt_cmpR op_lt (pv 5) (pv 3) (nomark _)) (pw_or1 (pt_cmpR op_gt (pv 5) (pv 4) (nomark _))))) (pss_one (ps_ret (pv 1))) pss_nil))))
      (pss_one (ps_ret pe_non))), fun Q kq => ?_⟩
  replace kq : ∀ H', Ex H H' → Q (opV (fHead b)) H' := kq
  rw [fHead] at kq
  refine q_forT (a := ah) (xs := us) ev_c (hs H) (fun i σ' H' => Ex H H' ∧ hbs.find? (badHd b) = (hbs.drop i).find? (badHd b) ∧ ∃ o1 o2 o3 o4 o5, σ' = [some x, o1, o2, o3, o4, o5]) ?_ ?_ ?_ ?_
  · exact fun H1 e1 => ⟨e1, rfl, none, none, none, none, none, rfl⟩
  · exact fun i σ' H' _ _ => hs H'
  · rintro i u σ' H1 hu ⟨e1, hF, o1, o2, o3, o4, o5, rfl⟩
    have hi : i < 6 := by rw [← hul]; exact (List.getElem?_eq_some_iff.1 hu).1
    obtain ⟨q, hq⟩ : ∃ q, hbs[i]? = some q := ⟨_, List.getElem?_eq_getElem (show i < hbs.length from hi)⟩
    obtain ⟨a', hu', ha'⟩ := hat i q hq
    rw [hu] at hu'
    obtain rfl := Option.some.inj hu'
    rw [find_dropG hq] at hF
    obtain ⟨p, sz, lo, hi2⟩ := q
    refine ⟨a', _, rfl, ha' H1, rfl, _, _, rfl, _, _, rfl, _, _, rfl, _, _, rfl, rfl, ?_⟩
    have hsz : sz ≤ 4 := by
      match i, hq with
      | 0, h => injection (Option.some.inj h) with _ h; injection h with h _; omega
      | 1, h => injection (Option.some.inj h) with _ h; injection h with h _; omega
      | 2, h => injection (Option.some.inj h) with _ h; injection h with h _; omega
      | 3, h => injection (Option.some.inj h) with _ h; injection h with h _; omega
      | 4, h => injection (Option.some.inj h) with _ h; injection h with h _; omega
      | 5, h => injection (Option.some.inj h) with _ h; injection h with h _; omega
    have a1 : Anum K [x, .int (p : Int), .int (sz : Int)] H1 (.int (GlaBase.num b p sz : Nat)) := ⟨x, b, p, sz, rfl, ib.mono e1, hsz, rfl⟩
    apply q_asg
    · walk_at "ev"
    · intro H2 e2
      apply s_when (b := badHd b (p, sz, lo, hi2))
      · refine et_is (a := decide ((GlaBase.num b p sz : Int) < (lo : Int)) || decide ((GlaBase.num b p sz : Int) > (hi2 : Int))) ?_ (by rw [badHd, Bool.eq_iff_iff]; simp)
        walk_at "ev"
      · intro hb H3 e3
        rw [if_pos hb] at hF
        apply s_ret (v := .int (p : Int))
        · exact ev_var rfl
        · intro H4 e4
          have := kq H4 (((e1.trans e2).trans e3).trans e4)
          rw [hF] at this; exact this
      · intro hb H3 e3
        rw [if_neg (by rw [hb]; exact Bool.false_ne_true)] at hF
        exact ⟨(e1.trans e2).trans e3, hF, _, _, _, _, _, rfl⟩
  · rintro σ' H1 ⟨e1, hF, o1, o2, o3, o4, o5, rfl⟩
    rw [hul] at hF
    replace hF : hbs.find? (badHd b) = none := hF
    rw [hF] at kq
    apply s_ret
    · exact ev_c
    · exact fun H2 e2 => kq H2 (e1.trans e2)
theorem eqv_ints : ∀ (l m : List Int), PyData.eqvAll (l.map PyData.int) (m.map PyData.int) = decide (l = m)
  | [], [] => rfl
  | [], _ :: _ => rfl
  | _ :: _, [] => rfl
  | a :: l, b :: m => by
    rw [List.map_cons, List.map_cons, PyData.eqvAll, eqv_ints l m]
    show ((a == b) && decide (l = m)) = _
    rw [Bool.eq_iff_iff]; simp
theorem canLay_ints : ∀ l : List Int, PyData.canLayAll0 (l.map PyData.int) = true
  | [] => rfl
  | a :: l => by rw [List.map_cons, PyData.canLayAll0, canLay_ints l]; rfl
theorem depth_ints : ∀ l : List Int, PyData.depthAll (l.map PyData.int) = 0
  | [] => rfl
  | a :: l => by rw [List.map_cons, PyData.depthAll, depth_ints l]; rfl
theorem dpAll_ints {H : Hp} : ∀ l : List Int, DpAll K H (l.map V.int) (l.map PyData.int)
  | [] => .nil
  | a :: l => .cons (.int a) (dpAll_ints l)
theorem shaped_ints (l : List Int) : SeqAt.shaped (.tuple (l.map PyData.int)) = true := by
  unfold SeqAt.shaped
  rw [Bool.and_eq_true]
  refine ⟨canLay_ints l, decide_eq_true ?_⟩
  show PyData.depthAll (l.map PyData.int) + 1 ≤ 64
  rw [depth_ints]; decide
/-- two tuples of whole numbers -/
theorem ev_eqTU {σ : L2.St} {H : Hp} {ta tb : TE} {l m : List Int} {q : Addr} (ha : EvU ta σ H (l.map V.int)) (hb : Ev tb σ H (.ref q)) (hq : SqT K H q (m.map V.int)) : Ev (tOp (rEqD K) ta tb) σ H (.bl (decide (l = m))) := fun H1 e Q k =>
  ha H1 e _ fun a H2 _ e2 h2 => hb H2 (e.trans e2) _ fun H3 e3 => by
    refine ⟨.tuple (l.map PyData.int), .tuple (m.map PyData.int), .tup (st_of (e3 _ _ h2)) (dpAll_ints l), .tup (ex_t ((e.trans e2).trans e3) hq) (dpAll_ints m), shaped_ints l, shaped_ints m, ?_⟩
    have : PyData.eqv (.tuple (l.map PyData.int)) (.tuple (m.map PyData.int)) = decide (l = m) := eqv_ints l m
    rw [this]; exact k H3 (e2.trans e3)
/-- a new tuple of a new list's items -/
theorem eu_tupL {σ : L2.St} {H : Hp} {te : TE} {xs : List V} (h : EvL te σ H xs) :
    EvU (tCB (fun xs H Q => ∃ p ys, xs = [.ref p] ∧ ((SqL K H p ys ∧ ∀ l, H l = none → Q (.ref l) (upd H l (.tup ys))) ∨ (SqT K H p ys ∧ Q (.ref p) H))) (tCons te tNil)) σ H xs := fun H1 e Q q =>
  h H1 e _ fun p H2 _ e2 h2 => ⟨p, xs, rfl, .inl ⟨sq_of h2, fun l hl => q l _ (fresh_back e2 hl) (e2.trans (Ex.new hl)) upd_same⟩⟩
theorem byV_ints (b : List UInt8) : byV b = (b.map fun x => (x.toNat : Int)).map V.int := by
  rw [byV, List.map_map]; rfl
abbrev s_sign_fault : Stmt := topS 61
abbrev N_sign_fault : List Str := ["cartoon"]
theorem sc_sign_fault : FnScope N_sign_fault ["cartoon"] (defScope s_sign_fault) := ⟨rfl, rfl, rfl, by decide +kernel, rfl, by decide +kernel, by decide +kernel⟩
theorem k_sign_fault (T : Txt K mg) (T2 : Txt2 K mg) (F : Dfn K mg "sign_fault" s_sign_fault ["cartoon"]) : Cal P w K mg base 1 "sign_fault" (spV (Aby K fun b => opV (fSign b))) := by
  refine mk_V F sc_sign_fault (fun vs H v h => h.len) (fun f cdv A' outer s H vs E v hr a => ?_)
  obtain ⟨x, b, rfl, ⟨hb, l, rfl, hl⟩, rfl⟩ := a
  have hbl : (byV b).length = b.length := by rw [byV, List.length_map]
  obtain ⟨as, hg, hs⟩ := T2.g_SIGN
  have hg_SIGN : ∃ u, mg "SIGN" = some u ∧ RelV (.ref as) u := ⟨_, hg, rfl⟩
  refine ⟨_, (pss_cons (ps_if (pt_cmpR op_lt (pe_callB call_len_seq (by rfl) T.len PySem.boot_len (pa_cons (pv 0) pa_nil)) (pe_gc (by rfl) T.g_HEAD_SIZE) (nomark _)) (pss_one (ps_ret (pe_callB call_len_seq (by rfl) T.len PySem.boot_len (pa_cons (pv 0) pa_nil)))) pss_nil)
      (pss_one (ps_ret (pe_ifExp (pt_cmpR (op_eqD hr.units) (pe_callTy call_tuple_of (by rfl) T.tuple (by decide +kernel) (pa_cons (pe_slice sl_list (pv 0) (po_some pe_int) (po_some pe_int)) pa_nil)) (pe_gc (by rfl) hg_SIGN) (nomark _)) pe_non pe_int)))), fun Q kq => ?_⟩
  replace kq : ∀ H', Ex H H' → Q (opV (fSign b)) H' := kq
  rw [fSign] at kq
  apply q_when (b := decide (b.length < 20))
  · refine et_is (a := decide (((byV b).length : Int) < 20)) ?_ (by rw [hbl, Bool.eq_iff_iff]; simp; omega)
    walk_at "ev"
  · intro hh H1 e1
    rw [if_pos (of_decide_eq_true hh)] at kq
    have hl1 := ex_l e1 hl
    apply s_ret (v := .int ((byV b).length : Int))
    · walk_at "ev"
    · intro H2 e2
      rw [hbl]
      exact kq H2 (e1.trans e2)
  · intro hh H1 e1
    rw [if_neg (of_decide_eq_false hh)] at kq
    have hl1 := ex_l e1 hl
    have eq : decide ((b.take 4).map (fun x => (x.toNat : Int)) = ([71, 76, 65, 49] : List Int)) = decide (b.take 4 = GlaPlan.MAGIC) := by
      rw [Bool.eq_iff_iff, decide_eq_true_eq, decide_eq_true_eq]
      constructor
      · intro h
        have : (b.take 4).map (fun x => (x.toNat : Int)) = GlaPlan.MAGIC.map fun x => (x.toNat : Int) := h
        refine (List.map_inj_right ?_).1 this
        intro x y hxy
        have : x.toNat = y.toNat := by omega
        exact UInt8.toNat_inj.1 this
      · intro h; rw [h]; rfl
    apply s_ret (v := opV (if b.take 4 = GlaPlan.MAGIC then none else some 0))
    · apply ev_if (b := decide (b.take 4 = GlaPlan.MAGIC))
      · refine et_is (a := decide ((b.take 4).map (fun x => (x.toNat : Int)) = ([71, 76, 65, 49] : List Int))) (et_test (ev_eqTU ?_ ev_c (hs H1))) eq
        refine eu_tupL ?_
        have c1 : ((b.take 4).map (fun x => (x.toNat : Int))).map V.int = cutV (byV b) (some ((0 : Nat) : Int)) (some ((4 : Nat) : Int)) := by
          rw [cut_nat, byV_ints, List.drop_zero, ← List.map_take, ← List.map_take]
        rw [c1]
        exact el_sl (ev_var rfl) (eo_some ev_c) (eo_some ev_c) hl1
      · intro h
        refine ev_is (v := .non) ev_c ?_
        rw [if_pos (of_decide_eq_true h)]; rfl
      · intro h
        refine ev_is (v := .int 0) ev_c ?_
        rw [if_neg (of_decide_eq_false h)]; rfl
    · exact fun H2 e2 => kq H2 (e1.trans e2)
end
end Hl
end PHl17

section PRl9
set_option Elab.async false
set_option linter.all false
set_option maxRecDepth 100000
set_option maxHeartbeats 1000000
namespace Hl
open PySem PySem.Spec PyProof.Rows L2 Evl
/-! ### enumerate(tuple, start=k) -/
section
variable {M : Model} {A : Around} {E : Value → Shared → Prop} {s : Shared} {env : Env}
theorem cw_typeK {pos : Pos} {T : String} {first : List Value} {args : List (Bool × Sem Value)} {kws : List (Option Str × Sem Value)} {Q : Value → Shared → Prop} (hp : args.any (·.1) = false) (hk : kws.any (·.1.isNone) = false)
    (h : wpAny M A (evalArgs (.type T) true args kws) (fun a s₁ => wpAny M A (call (.type T) (first ++ a.pos) a.kw) Q E s₁) E s) : wpAny M A (callWith pos (.type T) first args kws) Q E s := by
  unfold callWith
  refine wpAny_bind (wpAny_holding (wpAny_mono h (fun a s₁ k => wpAny_bind (wpAny_standAt ?_)) fun _ _ x => x))
  simp only [hp, hk, Bool.or_false]
  refine wpAny_bind (wpAny_pure ?_)
  exact wpAny_bind (wpAny_mono k (fun r s₂ q => wpAny_bind (wpAny_holding (wpAny_point (wpAny_pure q)))) fun _ _ x => x)
theorem cw_typeKs {pos : Pos} {T : String} {e : Expr} {rest : List Expr} {kws : List Keyword} {Q : Value → Shared → Prop}
    (h : wpAny M A (spliced (backTo pos (starEach (e :: rest) env))) (fun vs s₁ => wpAny M A (evalAll ((backToKw pos (keywordEach kws env)).map (·.2))) (fun ws s₂ => wpAny M A (call (.type T) vs (((backToKw pos (keywordEach kws env)).filterMap (·.1)).zip ws)) Q E s₂) E s₁) E s)
    (h1 : backTo pos (starEach (e :: rest) env) = (false, eval e env) :: backTo pos (starEach rest env)) (h2 : (backTo pos (starEach (e :: rest) env)).any (·.1) = false) (h3 : (backToKw pos (keywordEach kws env)).all (·.1.isSome) = true) (h4 : (backToKw pos (keywordEach kws env)).any (·.1.isNone) = false) :
    wpAny M A (callWith pos (.type T) [] (backTo pos (starEach (e :: rest) env)) (backToKw pos (keywordEach kws env))) Q E s := by
  refine cw_typeK h2 h4 ?_
  rw [h1] at h ⊢
  exact evalArgs_kwB h3 h
end
/-- the tuple at a, each item in a new pair with its number from k on -/
def ItK (K : PySem.W.Frag) (a : Addr) (k : Int) : It :=
  ⟨fun i H => ∃ (xs : List V) (x : V), SqT K H a xs ∧ xs[i]? = some x, fun i H v H' => ∃ T x, v = .ref T ∧ H T = none ∧ H' = upd H T (.tup [.int (k + (i : Nat)), x]) ∧ ∀ xs, SqT K H a xs → xs[i]? = some x, fun i H => ∃ xs : List V, SqT K H a xs ∧ xs.length = i⟩
theorem turn_enumK {P : Program} {w : World} {K : PySem.W.Frag} {elts : List Expr} {kk : Nat} {tpos : Pos} (a e it : Addr) (k : Int) (nei : e ≠ it) (nea : e ≠ a) (nai : a ≠ it) :
    Turn P w K (.Tuple elts kk tpos) (ItK K a k) [e, it] e (fun i h => (∃ old, IsEnum h e it (k + ((i : Nat) : Int)) old) ∧ h.IsTupleIter it a i) where
  mem := by simp
  obj := fun i h st b hb => by
    obtain ⟨⟨old, he⟩, ⟨o, ho, hc, hd⟩⟩ := st
    rcases (show b = e ∨ b = it by simpa using hb) with z | z <;> rw [z]
    · exact ⟨_, he, fun v q => nomatch q⟩
    · exact ⟨o, ho, fun v q => by rw [hd] at q; cases q⟩
  keep := fun i h h' st kp => let ⟨⟨old, he⟩, hi⟩ := st; ⟨⟨old, kp e (by simp) _ he⟩, hi.at fun o q => kp it (by simp) o q⟩
  item := by
    intro X hP hw hK hc i pins s σ H E I hf st hg
    subst hP hw hK
    obtain ⟨⟨old, he⟩, hit⟩ := st
    obtain ⟨xs, x, hq, hx⟩ := hg
    obtain ⟨its, rv, p, hz⟩ := I.tuple hq
    obtain ⟨u, hu, ru⟩ := rv.get hx
    have le : e < s.heap.objs.size := Heap.lt_size he
    have li : it < s.heap.objs.size := by obtain ⟨_, q, _⟩ := hit; exact Heap.lt_size q
    have hlt : i < its.toArray.size := by
      have := (List.getElem?_eq_some_iff.1 hu).1
      simpa using this
    refine wpAny_pyNext_enum_itemC (Draws.tuple (A := X.A.in1) (I.ok.hd hc) it a nai its.toArray) he ⟨hit, p⟩ hlt nei (by simp [nei, nea]) fun y h' tk hy ho hst hT hsz hk => ?_
    obtain rfl : u = y := by
      have hy' : its[i]? = some y := by simpa using hy
      rw [hu] at hy'; exact Option.some.inj hy'
    refine ⟨_, rfl, wpAny_letOwnedTupleGo_enum (s := { s with heap := h', toks := tk + 1 }) ho fun h'' he' sb => ?_⟩
    have hT2 : h''.get? s.heap.objs.size = some { cls := .type "tuple", data := .seq #[.int (k + (i : Nat)) tk, u] } := (sb.2 _ (Nat.ne_of_gt le)).trans hT
    have new : ObjOk X.prog X.w (upd H s.heap.objs.size (.tup [.int (k + (i : Nat)), x])) h'' s.heap.objs.size (.tup [.int (k + (i : Nat)), x]) :=
      ⟨by show 2 ≤ sizeLine; decide, [.int (k + (i : Nat)) tk, u], .cons ⟨_, rfl⟩ (.cons ru .nil), ⟨_, hT2, rfl, _, rfl⟩⟩
    have I1 : Inv X pins σ (upd H s.heap.objs.size (.tup [.int (k + (i : Nat)), x])) { s with heap := h'', toks := tk + 1 } :=
      I.turnedNew (ch := [e, it]) (fun b ob hb q => (sb.2 b (fun z => hb (by simp [z]))).trans (hk b ob (fun z => hb (by simp [z])) (fun z => hb (by simp [z])) q)) hf (Nat.le_refl _) new
    refine ⟨.ref s.heap.objs.size, _, I1, rfl, ⟨_, x, rfl, I.hok.fresh (Nat.le_refl _), rfl, fun ys hy => by rw [I.tuple_inj hy hq]; exact hx⟩, ⟨⟨u, ?_⟩, hst.1.at fun o q => (sb.2 it (Ne.symm nei)).trans q⟩, fun b hb => ?_⟩
    · have e1 : k + ((i + 1 : Nat) : Int) = k + (i : Int) + 1 := by omega
      rw [e1]; exact he'
    · have lb : b < s.heap.objs.size := by
        rcases (show b = e ∨ b = it by simpa using hb) with z | z <;> rw [z]
        · exact le
        · exact li
      rw [upd_ne (Nat.ne_of_lt lb)]
      exact (hf b hb).1
  done := by
    intro X hP hw hK hc i pins s σ H E I hf st hg
    subst hP hw hK
    obtain ⟨⟨old, he⟩, hit⟩ := st
    obtain ⟨xs, hq, hx⟩ := hg
    obtain ⟨its, rv, p, hz⟩ := I.tuple hq
    obtain ⟨f0, f1, f2, f3, f4, f5⟩ := hf it (by simp)
    have hl := rv.length
    have hsz : its.toArray.size = i := by simp; omega
    refine wpAny_pyNext_enum_endD (Draws.tuple (A := X.A.in1) (I.ok.hd hc) it a nai its.toArray) he ⟨by rw [hsz]; exact hit, p⟩ fun h' eb => ⟨rfl, I.turned (t' := s.toks) (fun b o hb q => eb b o hb q) f0 f1 f3 f4 f5⟩
  self := fun A i s Q E st h => let ⟨⟨_, he⟩, _⟩ := st; wpAny_pyIter_enum he h
def iEnumK (K : PySem.W.Frag) (te tk : TE) : TI := fun σ H R => te σ H fun v H1 => tk σ H1 fun z H2 => ∃ (a : Addr) (xs : List V) (k : Int), v = .ref a ∧ z = .int k ∧ SqT K H2 a xs ∧ (0 ≤ k ∧ k < 1000000) ∧ R (ItK K a k) H2
theorem pi_enumK {X : Cx} {e e2 : Expr} {te tk : TE} {p pos tpos kp : Pos} {elts : List Expr} {kk : Nat} (hg : Gl X "enumerate") (hm : X.mg "enumerate" = none) (he : PE X e te) (hk : PE X e2 tk)
    (h1 : backTo pos (starEach [e] X.env) = (false, eval e X.env) :: backTo pos (starEach [] X.env) := by rfl) (h2 : (backTo pos (starEach [e] X.env)).any (·.1) = false := by rfl) (h0 : starEach [e] X.env = (false, eval e X.env) :: starEach [] X.env := by rfl) :
    PI X (.Tuple elts kk tpos) (.Call (.Name "enumerate" p) [e] [⟨some "start", e2, kp⟩] pos) (iEnumK X.K te tk) := by
  refine ⟨fun pins s σ H R I h => ?_⟩
  refine wpAny_Call_Name_kw (ld_blt I hg hm boot_enumerate ?_)
  refine cw_typeKs (PyProof.Rows.args_cons (thn (he.run pins s σ H _ I h) fun v s1 ⟨x, H1, I1, r1, q1⟩ => PyProof.Rows.args_nil ?_) h0) h1 h2 rfl rfl
  refine kws_cons (thn (hk.run pins s1 σ H1 _ I1 q1) fun v2 s2 ⟨z, H2, I2, r2, q2⟩ => kws_nil ?_)
  obtain ⟨a, xs, k, rfl, rfl, hq, hk2, q⟩ := q2
  cases r1
  obtain ⟨t, rfl⟩ := r2
  obtain ⟨its, rv, p', hz⟩ := I2.tuple hq
  have la : a < s2.heap.objs.size := by obtain ⟨o, ho, _⟩ := id p'; exact Heap.lt_size ho
  refine enum_begins_start (begins_tuple a its.toArray) p' (by omega) (by omega) fun h' he' hit hsz hkp => wpAny_pyIter_enum he' ?_
  have I3 : Inv X pins σ H2 { s2 with heap := h' } := I2.kept (t' := s2.toks) hkp
  refine ⟨s2.heap.objs.size + 1, [s2.heap.objs.size + 1, s2.heap.objs.size], _, _, H2, rfl, I3, turn_enumK a (s2.heap.objs.size + 1) s2.heap.objs.size k (Nat.succ_ne_self _) (Nat.ne_of_gt (Nat.lt_succ_of_lt la)) (Nat.ne_of_lt la), ⟨⟨.none, by simpa using he'⟩, ?_⟩, fun b hb => ?_, q⟩
  · exact ⟨_, hit, rfl, rfl⟩
  · have hle : s2.heap.objs.size ≤ b := by
      rcases (show b = s2.heap.objs.size + 1 ∨ b = s2.heap.objs.size by simpa using hb) with z | z <;> rw [z]
      · exact Nat.le_add_right _ _
      · exact Nat.le_refl _
    exact I2.fpOk hle (I2.hok.fresh hle)
/-! ### a name that holds some def, called -/
def tCallL (P : Program) (w : World) (K : PySem.W.Frag) (mg : Str → Option Value) (base : Heap) (j i : Nat) (t : TA) : TE := fun σ H Q => ∃ k f sp, C8.CalAt P w K mg base k f sp ∧ k ≤ j ∧ σ[i]? = some (some (.ref f)) ∧ t σ H fun vs H1 => sp vs H1 Q E0
section
variable {X : Cx} {j : Nat} {x : Str} {p pos : Pos} {e : Expr} {es : List Expr} {t : TA}
theorem pe_cl {i : Nat} (hr : Room j X.A) (hN : X.N[i]? = some x) (hv : Vis X.env.scope x) (ha : PA X (e :: es) t)
    (hd : (x == ("__debug__" : Str)) = false := by decide) (hcd : (x == ("__classdict__" : Str)) = false := by decide)
    (he : starEach (e :: es) X.env = (false, eval e X.env) :: starEach es X.env := by rfl) (hpl : (backTo pos (starEach es X.env)).any (·.1) = false := by rfl) :
    PE X (.Call (.Name x p) (e :: es) [] pos) (tCallL X.prog X.w X.K X.mg X.base j i t) := by
  refine ⟨fun pins s σ H Q I h => ?_⟩
  obtain ⟨k, f, sp, c, hk, hs, ht⟩ := h
  obtain ⟨fd, ps, F, kp, b⟩ := c.ex
  refine wpAny_Call_Name_kw (thn ((pe_var (pos := p) hN hv hd hcd).run pins s σ H (fun v H1 => v = .ref f ∧ H1 = H) I ⟨.ref f, hs, rfl, rfl⟩) fun u s1 ⟨v, H1, I1, r1, q1⟩ => ?_)
  obtain ⟨rfl, rfl⟩ := q1
  cases r1
  refine PySem.W.callWith_K (h₀ := X.base) I.ok.mod.kin kp (thn (ha.run pos pins s1 σ _ _ I1 ht) fun us s2 ⟨vs, H2, I2, r, q⟩ => ⟨I2.kIn, ?_⟩) he hpl
  exact run_fn F (hr.mono hk) b .nil pass0 I2 r (by rw [List.append_nil]; exact q)
end
end Hl
end PRl9

section PHl18
set_option Elab.async false
set_option linter.all false
set_option maxRecDepth 100000
set_option maxHeartbeats 2000000
local macro_rules | `(tactic| walk_at "ev") => `(tactic| (first
  | exact Evl.ev_c
  | exact Evl.ev_var rfl
  | (apply Hl.ev_I0 <;> walk_at "ev")
  | (apply Hl.ev_I <;> walk_at "ev")
  | (apply Hl.ev_ixT <;> walk_at "ev")
  | (apply Hl.ev_ixL <;> walk_at "ev")
  | exact Evl.ea_nil
  | (apply Evl.ea_cons <;> walk_at "ev")
  | (apply Hl.ev_callV <;> first | assumption | walk_at "ev")
  | (apply Hl.ev_eq <;> walk_at "ev")
  | (apply Hl.ev_ne <;> walk_at "ev")
  | (apply Hl.ev_fld <;> first | assumption | walk_at "ev")
  | (apply Hl.ev_lenL <;> first | assumption | walk_at "ev")
  | (apply Hl.ev_chain <;> first | (refine fun (_ : _ = _) => ?_; walk_at "ev") | walk_at "ev")
  | (apply Evl.ev_orV <;> first | (refine fun (_ : _ = _) => ?_; walk_at "ev") | walk_at "ev")
  | (apply Evl.ev_andV <;> first | (refine fun (_ : _ = _) => ?_; walk_at "ev") | walk_at "ev")
  | (apply Evl.ev_notV <;> walk_at "ev")
  | (apply Evl.et_test <;> walk_at "ev")
  | (apply Evl.et_B <;> walk_at "ev")
  | (apply Evl.et_not <;> walk_at "ev")
  | (apply Evl.et_and <;> first | (refine fun (_ : _ = _) => ?_; walk_at "ev") | walk_at "ev")
  | (apply Evl.et_or <;> first | (refine fun (_ : _ = _) => ?_; walk_at "ev") | walk_at "ev")
  | assumption
  | (exact Evl.st_of (by assumption))
  | exact rfl
  | skip))

namespace Hl
open PySem PySem.Spec PyProof.Rows L2 Evl
open GlaPlan (Pt Plan)
def fsOf : Nat → List (Option Nat) → Option (Nat × Nat)
  | _, [] => none
  | k, none :: r => fsOf (k + 1) r
  | k, some p :: _ => some (k, p)
theorem fsOf_drop {l : List (Option Nat)} {i k : Nat} {x : Option Nat} (h : l[i]? = some x) : fsOf k (l.drop i) = match x with
    | none => fsOf (k + 1) (l.drop (i + 1))
    | some p => some (k, p) := by
  obtain ⟨h1, h2⟩ := List.getElem?_eq_some_iff.1 h
  rw [List.drop_eq_getElem_cons h1, h2]
  cases x <;> rfl
def byteVals (b : List UInt8) : List (Option Nat) := [fSign b, fHead b, fSize b]
def drawVals (S : Plan) : List (Option Nat) := [fPoint S, fLine S, fFrame S, fCross S, fLoose S, fIsland S, fHinge S, fMark S, fSecond S, fBare S]
def fFirst (b : List UInt8) : Option (Nat × Nat) := match fsOf 1 (byteVals b) with
  | some x => some x
  | none => fsOf 4 (drawVals (GlaPlan.parts b))
section
variable {P : Program} {w : World} {K : PySem.W.Frag} {mg : Str → Option Value} {base : Heap} {C : Addr}
theorem Cal.at {k : Nat} {x : Str} {sp : Sp} {f : Addr} (c : Cal P w K mg base k x sp) (h : mg x = some (.ref f)) : C8.CalAt P w K mg base k f sp := by
  obtain ⟨f', fd, ps, F, hm, kp, b⟩ := c.ex
  rw [hm] at h
  cases h
  exact ⟨fd, ps, F, kp, b⟩
section
variable {σ : L2.St} {H : Hp} {te tk : TE} {t : TA} {tu tz : TS} {D : Ends}
theorem ev_callD {A : List V → Hp → V → Prop} {j k i : Nat} {f : Addr} {vs : List V} {v : V} (m : Mono A) (c : C8.CalAt P w K mg base k f (spV A)) (hk : k ≤ j) (hs : σ[i]? = some (some (.ref f))) (h : EvA t σ H vs) (a : A vs H v) : Ev (tCallL P w K mg base j i t) σ H v := fun H1 e Q q =>
  ⟨k, f, spV A, c, hk, hs, h H1 e _ fun H2 e2 => ⟨v, m _ _ _ _ (e.trans e2) a, fun H3 e3 => q H3 (e2.trans e3)⟩⟩
theorem q_enumK {a : Addr} {xs : List V} {k : Int} {j1 j2 : Nat} (h : Ev te σ H (.ref a)) (hk : Ev tk σ H (.int k)) (hq : ∀ H', SqT K H' a xs) (hb : 0 ≤ k ∧ k < 1000000) (I : Nat → L2.St → Hp → Prop) (h0 : ∀ H1, Ex H H1 → I 0 σ H1)
    (hs : ∀ i x σ' H' H'', xs[i]? = some x → I i σ' H' → Ex H' H'' → tu { D with nx := I (i + 1), ct := I (i + 1), bk := tz D } ((σ'.set j1 (some (.int (k + (i : Nat))))).set j2 (some x)) H'') (hd : ∀ σ' H', I xs.length σ' H' → tz D σ' H') :
    tSeq (tFor (iEnumK K te tk) (gTup K 2 (gCons (gName j1) (gCons (gName j2) gNil))) tu) tz D σ H :=
  have wk : Walk (ItK K a k) xs.length (fun H => SqT K H a xs) (fun i H0 v H0' => ∃ T x, v = .ref T ∧ H0 T = none ∧ H0' = upd H0 T (.tup [.int (k + (i : Nat)), x]) ∧ xs[i]? = some x) :=
    ⟨fun i H' hi q => ⟨xs, xs[i], q, List.getElem?_eq_getElem hi⟩, fun H' q => ⟨xs, q, rfl⟩, fun i H' x H'' hi q ⟨T, y, e1, e2, e3, e4⟩ => ⟨T, y, e1, e2, e3, e4 xs q⟩⟩
  h H (Ex.refl H) _ fun H1 e1 => hk H1 e1 _ fun H2 e2 => ⟨a, xs, k, rfl, rfl, hq H2, hb, for_it wk
    I (h0 H2 (e1.trans e2)) (fun _ _ H' _ _ => hq H') (fun i v σ' H' H'' hi p hy => by
      obtain ⟨T, x, rfl, hT, rfl, hx⟩ := hy
      exact g_pair upd_same (hs i x σ' H' _ hx p (Ex.new hT))) hd⟩
end
/-- the defs of rules, in their order -/
structure Txt3 (K : PySem.W.Frag) (mg : Str → Option Value) : Prop where
  rb : ∃ a f1 f2 f3 : Addr, mg "RULES_OF_BYTES" = some (.ref a) ∧ (∀ H, SqT K H a [.ref f1, .ref f2, .ref f3]) ∧ mg "sign_fault" = some (.ref f1) ∧ mg "head_fault" = some (.ref f2) ∧ mg "size_fault" = some (.ref f3)
  rd : ∃ a g1 g2 g3 g4 g5 g6 g7 g8 g9 g10 : Addr, mg "RULES_OF_DRAWINGS" = some (.ref a) ∧ (∀ H, SqT K H a [.ref g1, .ref g2, .ref g3, .ref g4, .ref g5, .ref g6, .ref g7, .ref g8, .ref g9, .ref g10]) ∧
    mg "point_fault" = some (.ref g1) ∧ mg "line_fault" = some (.ref g2) ∧ mg "frame_fault" = some (.ref g3) ∧ mg "crossing_fault" = some (.ref g4) ∧ mg "loose_end_fault" = some (.ref g5) ∧ mg "island_fault" = some (.ref g6) ∧ mg "hinge_fault" = some (.ref g7) ∧
    mg "mark_fault" = some (.ref g8) ∧ mg "second_mark_fault" = some (.ref g9) ∧ mg "bare_pane_fault" = some (.ref g10)
/-- a rule's value at i, its def at f -/
def RuleAt (P : Program) (w : World) (K : PySem.W.Frag) (mg : Str → Option Value) (base : Heap) (x : V) (H0 : Hp) (f : Addr) (o : Option Nat) : Prop :=
  ∃ (k : Nat) (A : List V → Hp → V → Prop), C8.CalAt P w K mg base k f (spV A) ∧ k ≤ 6 ∧ Mono A ∧ A [x] H0 (opV o)
def isFst (o : Option (Nat × Nat)) (v : V) (H : Hp) : Prop := match o with
  | none => v = .non
  | some x => ∃ p, v = .ref p ∧ H p = some (.lst [.int (x.1 : Int), .int (x.2 : Int)])
def Aff (K : PySem.W.Frag) : List V → Hp → (V → Hp → Prop) → Prop := fun vs H R => ∃ (x : V) (b : List UInt8), vs = [x] ∧ isBy K b x H ∧ R = isFst (fFirst b)
theorem Aff.mono : Mono (Aff K) := fun vs H H' v e ⟨x, b, h, h1, h2⟩ => ⟨x, b, h, h1.mono e, h2⟩
theorem fsOf_none : ∀ (l : List (Option Nat)) (k : Nat), (∀ j, j < l.length → l[j]? = some none) → fsOf k l = none
  | [], _, _ => rfl
  | none :: r, k, h => fsOf_none r (k + 1) fun j hj => h (j + 1) (by simp; omega)
  | some p :: r, k, h => by
    have := h 0 (by simp)
    simp at this
theorem q_rules {σ : L2.St} {H : Hp} {te tk : TE} {tz : TS} {D : Ends} {a : Addr} {us : List V} (vals : List (Option Nat)) (k0 s : Nat) (c d : Option V) (y : V) (h : Ev te [c, σ[1]?.join, σ[2]?.join, σ[3]?.join, d] H (.ref a)) (hk : Ev tk [c, σ[1]?.join, σ[2]?.join, σ[3]?.join, d] H (.int (k0 : Int))) (hq : ∀ H', SqT K H' a us) (hk0 : k0 < 100)
    (hlen : us.length = vals.length) (hv : vals.length < 100) (hsl : ∀ o1 o2 o3, ([c, o1, o2, o3, d] : L2.St)[s]? = some (some y))
    (hr : ∀ i, i < vals.length → (∀ j, j < i → vals[j]? = some none) → ∃ f o, us[i]? = some (.ref f) ∧ vals[i]? = some o ∧ RuleAt P w K mg base y H f o)
    (hret : ∀ x l H', Ex H H' → fsOf k0 vals = some x → H' l = some (.lst [.int (x.1 : Int), .int (x.2 : Int)]) → D.rt (.ref l) H')
    (hd : ∀ o1 o2 o3 H', Ex H H' → (∀ j, j < vals.length → vals[j]? = some none) → tz D [c, o1, o2, o3, d] H') :
    tSeq (tFor (iEnumK K te tk) (gTup K 2 (gCons (gName 1) (gCons (gName 2) gNil))) (tSeq (tAsg (tCallL P w K mg base 6 2 (tCons (tVar s) tNil)) (gName 3)) (tIfS (tTest (tOp (fun x y H Q => y = .non ∧ Q (.bl (!decide (x = .non))) H) (tVar 3) (tC .non))) (tRet (tLst (tCons (tVar 1) (tCons (tVar 3) tNil)))) tNext))) tz D [c, σ[1]?.join, σ[2]?.join, σ[3]?.join, d] H := by
  refine q_enumK (a := a) (xs := us) (k := (k0 : Int)) h hk hq (by omega) (fun i σ' H' => Ex H H' ∧ (∀ j, j < i → vals[j]? = some none) ∧ ∃ o1 o2 o3, σ' = [c, o1, o2, o3, d]) ?_ ?_ ?_
  · exact fun H1 e1 => ⟨e1, fun j hj => absurd hj (Nat.not_lt_zero j), _, _, _, rfl⟩
  · rintro i x σ' H1 H2 hx ⟨e1, hn, o1, o2, o3, rfl⟩ e2
    have hi : i < vals.length := by rw [← hlen]; exact (List.getElem?_eq_some_iff.1 hx).1
    obtain ⟨f, o, hf, ho, k, A, cA, hk6, mA, hA⟩ := hr i hi hn
    rw [hx] at hf
    obtain rfl := Option.some.inj hf
    have e02 := e1.trans e2
    apply q_asg (v := opV o)
    · refine ev_callD (f := f) (vs := [y]) mA cA hk6 rfl (ea_cons (ev_var (hsl _ _ _)) ea_nil) (mA _ _ _ _ e02 hA)
    · intro H3 e3
      have hfs : fsOf k0 vals = fsOf (k0 + i) (vals.drop i) := by
        have : ∀ n, n ≤ i → fsOf k0 vals = fsOf (k0 + n) (vals.drop n) := by
          intro n
          induction n with
          | zero => intro _; rfl
          | succ n ih =>
            intro hle
            rw [ih (by omega), fsOf_drop (hn n (by omega))]; rfl
        exact this i (Nat.le_refl _)
      rw [fsOf_drop ho] at hfs
      apply s_when (b := o.isSome)
      · refine et_test fun H4 e4 Q q => ?_
        cases o with
        | none => exact ⟨.non, rfl, rfl, q H4 (Ex.refl H4)⟩
        | some p => exact ⟨.int p, rfl, rfl, q H4 (Ex.refl H4)⟩
      · intro hb H4 e4
        cases o with
        | none => cases hb
        | some p =>
          apply s_retL
          · exact el_lst (ea_cons (ev_var rfl) (ea_cons (ev_var rfl) ea_nil)) (by simp)
          · intro l H5 hl e5 h5
            refine hret (k0 + i, p) l H5 (((e02.trans e3).trans e4).trans e5) hfs ?_
            rw [h5]
            simp [opV]
      · intro hb H4 e4
        cases o with
        | some p => cases hb
        | none =>
          refine ⟨(e02.trans e3).trans e4, ?_, _, _, _, rfl⟩
          intro j hj
          rcases Nat.lt_or_ge j i with z | z
          · exact hn j z
          · have : j = i := by omega
            rw [this]; exact ho
  · rintro σ' H1 ⟨e1, hn, o1, o2, o3, rfl⟩
    exact hd o1 o2 o3 H1 e1 fun j hj => hn j (by omega)
/-! ### what the rules before say -/
structure Dm (S : Plan) : Prop where
  n2 : 4 ≤ S.pts.length
  np : S.pts.length ≤ 4096
  nl : S.lines.length ≤ 8192
  nm : S.marks.length ≤ 2048
  wp : 0 < S.w
  hp : 0 < S.h
theorem map_none {α β : Type} {o : Option α} {f : α → β} (h : o.map f = none) : o = none := by
  cases o with
  | none => rfl
  | some _ => cases h
theorem bad5 {S : Plan} (h : fLine S = none) : GlaPlan.firstBad (fun (l : Nat × Nat) => decide (l.1 < l.2) && decide (l.2 < S.pts.length)) GlaPlan.lineBelow S.lines = none := by
  rw [Geo.firstBad_eq]
  have h' : Geo.fa0 (badLn S) 0 S.lines = none := map_none (f := GlaPlan.linePlace S) h
  rw [← h']
  congr 1
  funext i x
  show _ = badLn S i x
  rw [badLn, okLn]
  cases S.lines[i - 1]? <;> rfl
theorem bad4 {S : Plan} (h : fPoint S = none) : GlaPlan.firstBad (fun (p : Pt) => decide (p.x ≤ S.w) && decide (p.y ≤ S.h)) Pt.below S.pts = none := by
  rw [Geo.firstBad_eq]
  have h' : Geo.fa0 (badPt S) 0 S.pts = none := map_none (f := GlaPlan.ptPlace) h
  rw [← h']
  congr 1
  funext i x
  show _ = badPt S i x
  rw [badPt, okPt]
  cases S.pts[i - 1]? <;> rfl
theorem lines_ok {S : Plan} (h : fLine S = none) : ∀ m ∈ S.lines, m.1 < m.2 ∧ m.2 < S.pts.length := by
  intro m hm
  obtain ⟨a, _⟩ := Geo.firstBad_none (bad5 h)
  obtain ⟨i, hi⟩ := List.mem_iff_getElem?.1 hm
  have := a i m hi
  simpa using this
theorem gl_of {S : Plan} (h : fLine S = none) : GL S := fun m hm => by
  have := lines_ok h m hm
  exact ⟨by omega, by omega⟩
theorem gn_of {S : Plan} (d : Dm S) (h : fLine S = none) : GN S := ⟨gl_of h, fun m hm => (lines_ok h m hm).1, by have := d.np; omega, by have := d.nl; omega⟩
theorem sel_edge (S : Plan) (f : Pt → Bool) : sel f S.pts = GlaPlan.edgePts S f := by
  rw [sel, GlaPlan.edgePts]
  apply List.filter_congr
  intro i hi
  rw [Geo.pt_get (List.mem_range.1 hi)]
theorem edge_inc (S : Plan) (f : Pt → Bool) : (GlaPlan.edgePts S f).Pairwise (· < ·) := List.Pairwise.filter _ List.pairwise_lt_range
theorem chained_in {S : Plan} : ∀ {l : List Nat}, l.Pairwise (· < ·) → GlaPlan.chained S l = rowIn S l := by
  intro l h
  rw [GlaPlan.chained, rowIn]
  apply Bool.eq_iff_iff.2
  rw [List.all_eq_true, List.all_eq_true]
  have key : ∀ q ∈ l.zip (l.drop 1), q.1 < q.2 := by
    intro q hq
    obtain ⟨i, hi⟩ := List.mem_iff_getElem?.1 hq
    rw [List.getElem?_zip_eq_some] at hi
    obtain ⟨h1, h2⟩ := hi
    rw [List.getElem?_drop] at h2
    obtain ⟨a1, b1⟩ := List.getElem?_eq_some_iff.1 h1
    obtain ⟨a2, b2⟩ := List.getElem?_eq_some_iff.1 h2
    rw [← b1, ← b2]
    exact List.pairwise_iff_getElem.1 h i (1 + i) a1 a2 (by omega)
  constructor
  · intro k q hq
    have := k q hq
    rw [GlaPlan.Plan.joined, Nat.min_eq_left (Nat.le_of_lt (key q hq)), Nat.max_eq_right (Nat.le_of_lt (key q hq))] at this
    exact decide_eq_true (List.contains_iff_mem.1 this)
  · intro k q hq
    have := of_decide_eq_true (k q hq)
    rw [GlaPlan.Plan.joined, Nat.min_eq_left (Nat.le_of_lt (key q hq)), Nat.max_eq_right (Nat.le_of_lt (key q hq))]
    exact List.contains_iff_mem.2 this
theorem frameOk_eq (S : Plan) : GlaPlan.frameOk S = ((crn S 0 && crn S S.w) && (edgesOf S).all (rowIn S)) := by
  rw [GlaPlan.frameOk, crn, crn, edgesOf]
  simp only [List.all_cons, List.all_nil, sel_edge, ← chained_in (edge_inc S _)]
  generalize S.pts.contains ⟨0, 0⟩ = a1
  generalize S.pts.contains ⟨S.w, 0⟩ = a2
  generalize S.pts.contains ⟨0, S.h⟩ = a3
  generalize S.pts.contains ⟨S.w, S.h⟩ = a4
  generalize GlaPlan.chained S (GlaPlan.edgePts S fun p => p.y == 0) = a5
  generalize GlaPlan.chained S (GlaPlan.edgePts S fun p => p.y == S.h) = a6
  generalize GlaPlan.chained S (GlaPlan.edgePts S fun p => p.x == 0) = a7
  generalize GlaPlan.chained S (GlaPlan.edgePts S fun p => p.x == S.w) = a8
  revert a1 a2 a3 a4 a5 a6 a7 a8
  decide
theorem framed_ofV {S : Plan} (d : Dm S) (h1 : fPoint S = none) (h2 : fLine S = none) (h3 : fFrame S = none) (h4 : fCross S = none) (h5 : fLoose S = none) (h6 : fIsland S = none) (h7 : fHinge S = none) : Geo.Framed S := by
  refine Geo.framed_of d.wp d.hp (bad4 h1) (bad5 h2) ?_ ?_ (map_none h5) (map_none h6) (map_none h7)
  · rw [frameOk_eq]
    cases e : ((crn S 0 && crn S S.w) && (edgesOf S).all (rowIn S)) with
    | true => rfl
    | false => rw [fFrame, e, if_neg Bool.false_ne_true] at h3; cases h3
  · rw [Geo.firstAt_eq]; exact map_none h4
theorem gp_of {S : Plan} (d : Dm S) {n : Nat} (hn : ∀ j, j < n → (drawVals S)[j]? = some none) (h : 7 ≤ n) : Gp S := by
  have g : ∀ j o, j < 7 → (drawVals S)[j]? = some o → o = none := fun j o hj ho => by
    have := hn j (by omega)
    rw [ho] at this; exact Option.some.inj this
  have F := framed_ofV d (g 0 _ (by decide) rfl) (g 1 _ (by decide) rfl) (g 2 _ (by decide) rfl) (g 3 _ (by decide) rfl) (g 4 _ (by decide) rfl) (g 5 _ (by decide) rfl) (g 6 _ (by decide) rfl)
  exact ⟨gn_of d (g 1 _ (by decide) rfl), d.np, d.nl, d.nm, F.toWhole⟩
theorem head_dm {b : List UInt8} (h : fHead b = none) : Dm (GlaPlan.parts b) := by
  have h0 : hbs.find? (badHd b) = none := map_none h
  rw [List.find?_eq_none] at h0
  have k1 := h0 (4, 4, 16, 1048575) (by simp [hbs])
  have k2 := h0 (8, 4, 16, 1048575) (by simp [hbs])
  have k3 := h0 (12, 2, 4, 4096) (by simp [hbs])
  have k4 := h0 (14, 2, 4, 8192) (by simp [hbs])
  have k5 := h0 (16, 2, 1, 2048) (by simp [hbs])
  simp only [badHd, Bool.or_eq_true, decide_eq_true_eq, not_or, Nat.not_lt] at k1 k2 k3 k4 k5
  refine ⟨?_, ?_, ?_, ?_, ?_, ?_⟩
  · simp [GlaPlan.parts]; omega
  · simp [GlaPlan.parts]; omega
  · simp [GlaPlan.parts]; omega
  · simp [GlaPlan.parts]; omega
  · show 0 < GlaBase.num b 4 4; omega
  · show 0 < GlaBase.num b 8 4; omega
abbrev s_first_fault : Stmt := topS 80
abbrev N_first_fault : List Str := ["cartoon", "rule", "fault_in", "place", "drawing"]
theorem sc_first_fault : FnScope N_first_fault ["cartoon"] (defScope s_first_fault) := ⟨rfl, rfl, rfl, by decide +kernel, rfl, by decide +kernel, by decide +kernel⟩
theorem k_first_fault (T : Txt K mg) (T3 : Txt3 K mg) (F : Dfn K mg "first_fault" s_first_fault ["cartoon"]) (c_drawing_of : Cal P w K mg base 4 "drawing_of" (spR (Adrw K C)))
    (r1 : Cal P w K mg base 1 "sign_fault" (spV (Aby K fun b => opV (fSign b)))) (r2 : Cal P w K mg base 2 "head_fault" (spV (Aby K fun b => opV (fHead b)))) (r3 : Cal P w K mg base 5 "size_fault" (spV (Aby K fun b => opV (fSize b))))
    (r4 : Cal P w K mg base 2 "point_fault" (spV (Ado K C (fun _ => True) fun S => opV (fPoint S)))) (r5 : Cal P w K mg base 3 "line_fault" (spV (Ado K C (fun _ => True) fun S => opV (fLine S)))) (r6 : Cal P w K mg base 2 "frame_fault" (spV (Ado K C Gf fun S => opV (fFrame S))))
    (r7 : Cal P w K mg base 5 "crossing_fault" (spV (Ado K C GL fun S => opV (fCross S)))) (r8 : Cal P w K mg base 2 "loose_end_fault" (spV (Ado K C Gd fun S => opV (fLoose S)))) (r9 : Cal P w K mg base 2 "island_fault" (spV (Ado K C Gd fun S => opV (fIsland S))))
    (r10 : Cal P w K mg base 3 "hinge_fault" (spV (Ado K C Gd fun S => opV (fHinge S)))) (r11 : Cal P w K mg base 4 "mark_fault" (spV (Ado K C GL fun S => opV (fMark S)))) (r12 : Cal P w K mg base 6 "second_mark_fault" (spV (Ado K C Gp fun S => opV (fSecond S))))
    (r13 : Cal P w K mg base 6 "bare_pane_fault" (spV (Ado K C Gp fun S => opV (fBare S)))) :
    Cal P w K mg base 7 "first_fault" (spR (Aff K)) := by
  refine mk_R F sc_first_fault (fun vs H v h => by obtain ⟨_, _, rfl, _⟩ := h; rfl) (fun f cdv A' outer s H vs E v hr a => ?_)
  obtain ⟨x, b, rfl, ib, rfl⟩ := a
  obtain ⟨ab, f1, f2, f3, hgb, hsb, hf1, hf2, hf3⟩ := T3.rb
  obtain ⟨ad, g1, g2, g3, g4, g5, g6, g7, g8, g9, g10, hgd, hsd, hg1, hg2, hg3, hg4, hg5, hg6, hg7, hg8, hg9, hg10⟩ := T3.rd
  have hg_RULES_OF_BYTES : ∃ u, mg "RULES_OF_BYTES" = some u ∧ RelV (.ref ab) u := ⟨_, hgb, rfl⟩
  have hg_RULES_OF_DRAWINGS : ∃ u, mg "RULES_OF_DRAWINGS" = some u ∧ RelV (.ref ad) u := ⟨_, hgd, rfl⟩
  refine ⟨_, (pss_cons (ps_for PassesOwn.never rfl (pi_enumK (by rfl) T.enumerate (pe_gc (by rfl) hg_RULES_OF_BYTES) pe_int) (pg_tup (by rfl) (pgs_cons (pg_name (i := 1) sc_first_fault.nd rfl (Or.inl rfl)) (pgs_cons (pg_name (i := 2) sc_first_fault.nd rfl (Or.inl rfl)) pgs_nil)))
        (pss_cons (ps_set (i := 3) sc_first_fault.nd rfl (Or.inl rfl) (pe_cl (i := 2) hr rfl (Or.inl rfl) (pa_cons (pv 0) pa_nil)))
      (pss_one (ps_if (pt_cmpR op_notN (pv 3) pe_non (nomark _)) (pss_one (ps_ret (pe_lst (pa_cons (pv 1) (pa_cons (pv 3) pa_nil))))) pss_nil))))
      (pss_cons (ps_set (i := 4) sc_first_fault.nd rfl (Or.inl rfl) (pe_c c_drawing_of hr (by decide) (by rfl) (pa_cons (pv 0) pa_nil)))
      (pss_cons (ps_for PassesOwn.never rfl (pi_enumK (by rfl) T.enumerate (pe_gc (by rfl) hg_RULES_OF_DRAWINGS) (pe_op op_add pe_int (pe_callB call_len_seq (by rfl) T.len PySem.boot_len (pa_cons (pe_gc (by rfl) hg_RULES_OF_BYTES) pa_nil)))) (pg_tup (by rfl) (pgs_cons (pg_name (i := 1) sc_first_fault.nd rfl (Or.inl rfl)) (pgs_cons (pg_name (i := 2) sc_first_fault.nd rfl (Or.inl rfl)) pgs_nil)))
        (pss_cons (ps_set (i := 3) sc_first_fault.nd rfl (Or.inl rfl) (pe_cl (i := 2) hr rfl (Or.inl rfl) (pa_cons (pv 4) pa_nil)))
      (pss_one (ps_if (pt_cmpR op_notN (pv 3) pe_non (nomark _)) (pss_one (ps_ret (pe_lst (pa_cons (pv 1) (pa_cons (pv 3) pa_nil))))) pss_nil))))
      (pss_one (ps_ret pe_non))))), fun Q kq => ?_⟩
  refine q_rules (σ := [some x, none, none, none, none]) (byteVals b) 1 0 (some x) none x ev_c ev_c hsb (by decide) rfl (by show 3 < 100; decide) (fun _ _ _ => rfl) ?_ ?_ ?_
  · intro i hi hn
    match i, hi, hn with
    | 0, _, _ => exact ⟨f1, _, rfl, rfl, 1, _, r1.at hf1, by decide, Aby.mono, x, b, rfl, ib, rfl⟩
    | 1, _, _ => exact ⟨f2, _, rfl, rfl, 2, _, r2.at hf2, by decide, Aby.mono, x, b, rfl, ib, rfl⟩
    | 2, _, _ => exact ⟨f3, _, rfl, rfl, 5, _, r3.at hf3, by decide, Aby.mono, x, b, rfl, ib, rfl⟩
  · intro z l H' e hz hl
    refine kq _ H' e ?_
    rw [fFirst, hz]
    exact ⟨l, rfl, hl⟩
  · intro o1 o2 o3 H1 e1 hn
    have hsz : b.length = sizeAt b := by
      have : fSize b = none := Option.some.inj (hn 2 (by show 2 < 3; decide))
      refine Classical.byContradiction fun h => ?_
      rw [fSize, if_neg h] at this; cases this
    have dm : Dm (GlaPlan.parts b) := head_dm (Option.some.inj (hn 1 (by show 1 < 3; decide)))
    have hff : fFirst b = fsOf 4 (drawVals (GlaPlan.parts b)) := by
      rw [fFirst, fsOf_none _ _ hn]
    rw [hff] at kq
    clear hff hn
    apply q_asgR
    · exact er_callR Adrw.mono (vs := [x]) (ea_cons (ev_var rfl) ea_nil) ⟨x, b, rfl, ib.mono e1, hsz, rfl⟩
    · intro d H2 e2 id
      generalize GlaPlan.parts b = S at *
      have e02 := e1.trans e2
      refine q_rules (σ := [some x, o1, o2, o3, some d]) (drawVals S) 4 4 (some x) (some d) d ev_c ?_ hsd (by decide) rfl (by show 10 < 100; decide) (fun _ _ _ => rfl) ?_ ?_ ?_
      · refine ev_is (v := .int (1 + 3)) ?_ rfl
        refine ev_I0 (g := fun i j => .int (i + j)) ev_c ?_
        exact ev_cb (ea_cons ev_c ea_nil) fun H4 e4 Q q => ⟨ab, [.ref f1, .ref f2, .ref f3], rfl, .inr (hsb H4), q H4 (Ex.refl H4)⟩
      · intro i hi hn
        match i, hi, hn with
        | 0, _, _ => exact ⟨g1, _, rfl, rfl, 2, _, r4.at hg1, by decide, Ado.mono, d, S, rfl, id, trivial, rfl⟩
        | 1, _, _ => exact ⟨g2, _, rfl, rfl, 3, _, r5.at hg2, by decide, Ado.mono, d, S, rfl, id, trivial, rfl⟩
        | 2, _, _ => exact ⟨g3, _, rfl, rfl, 2, _, r6.at hg3, by decide, Ado.mono, d, S, rfl, id, ⟨by have := dm.np; omega, by have := dm.nl; omega⟩, rfl⟩
        | 3, _, hn => exact ⟨g4, _, rfl, rfl, 5, _, r7.at hg4, by decide, Ado.mono, d, S, rfl, id, gl_of (Option.some.inj (hn 1 (by decide))), rfl⟩
        | 4, _, hn => exact ⟨g5, _, rfl, rfl, 2, _, r8.at hg5, by decide, Ado.mono, d, S, rfl, id, ⟨gn_of dm (Option.some.inj (hn 1 (by decide))), by have := dm.n2; omega⟩, rfl⟩
        | 5, _, hn => exact ⟨g6, _, rfl, rfl, 2, _, r9.at hg6, by decide, Ado.mono, d, S, rfl, id, ⟨gn_of dm (Option.some.inj (hn 1 (by decide))), by have := dm.n2; omega⟩, rfl⟩
        | 6, _, hn => exact ⟨g7, _, rfl, rfl, 3, _, r10.at hg7, by decide, Ado.mono, d, S, rfl, id, ⟨gn_of dm (Option.some.inj (hn 1 (by decide))), by have := dm.n2; omega⟩, rfl⟩
        | 7, _, hn => exact ⟨g8, _, rfl, rfl, 4, _, r11.at hg8, by decide, Ado.mono, d, S, rfl, id, gl_of (Option.some.inj (hn 1 (by decide))), rfl⟩
        | 8, _, hn => exact ⟨g9, _, rfl, rfl, 6, _, r12.at hg9, by decide, Ado.mono, d, S, rfl, id, gp_of dm hn (by decide), rfl⟩
        | 9, _, hn => exact ⟨g10, _, rfl, rfl, 6, _, r13.at hg10, by decide, Ado.mono, d, S, rfl, id, gp_of dm hn (by decide), rfl⟩
      · intro z l H' e hz hl
        refine kq _ H' (e02.trans e) ?_
        rw [hz]
        exact ⟨l, rfl, hl⟩
      · intro o1 o2 o3 H3 e3 hn
        rw [fsOf_none _ _ hn] at kq
        apply s_ret
        · exact ev_c
        · exact fun H4 e4 => kq _ H4 ((e02.trans e3).trans e4) rfl
end
end Hl
end PHl18

section PHl19
set_option Elab.async false
set_option linter.all false
set_option maxRecDepth 100000
set_option maxHeartbeats 2000000
local macro_rules | `(tactic| walk_at "ev") => `(tactic| (first
  | exact Evl.ev_c
  | exact Evl.ev_var rfl
  | (apply Hl.ev_I0 <;> walk_at "ev")
  | (apply Hl.ev_I <;> walk_at "ev")
  | (apply Hl.ev_ixT <;> walk_at "ev")
  | (apply Hl.ev_ixL <;> walk_at "ev")
  | exact Evl.ea_nil
  | (apply Evl.ea_cons <;> walk_at "ev")
  | (apply Hl.ev_callV <;> first | assumption | walk_at "ev")
  | (apply Hl.ev_eq <;> walk_at "ev")
  | (apply Hl.ev_ne <;> walk_at "ev")
  | (apply Hl.ev_fld <;> first | assumption | walk_at "ev")
  | (apply Hl.ev_lenL <;> first | assumption | walk_at "ev")
  | (apply Hl.ev_chain <;> first | (refine fun (_ : _ = _) => ?_; walk_at "ev") | walk_at "ev")
  | (apply Evl.ev_orV <;> first | (refine fun (_ : _ = _) => ?_; walk_at "ev") | walk_at "ev")
  | (apply Evl.ev_andV <;> first | (refine fun (_ : _ = _) => ?_; walk_at "ev") | walk_at "ev")
  | (apply Evl.ev_notV <;> walk_at "ev")
  | (apply Evl.et_test <;> walk_at "ev")
  | (apply Evl.et_B <;> walk_at "ev")
  | (apply Evl.et_not <;> walk_at "ev")
  | (apply Evl.et_and <;> first | (refine fun (_ : _ = _) => ?_; walk_at "ev") | walk_at "ev")
  | (apply Evl.et_or <;> first | (refine fun (_ : _ = _) => ?_; walk_at "ev") | walk_at "ev")
  | assumption
  | (exact Evl.st_of (by assumption))
  | exact rfl
  | skip))

namespace Hl
open PySem PySem.Spec PyProof.Rows L2 Evl
open GlaPlan (Pt Plan)
open GlaLead (LeadShop)
def shopV (s : LeadShop) : List V := [.int (s.a : Int), .int (s.b : Int), .int (s.bar : Int), .int (s.joint : Int), .int (s.loss : Int)]
def refuse (s : LeadShop) (b : List UInt8) : Option (List Int) := if s.ok = false then some [-1] else if 131072 < b.length then some [-6] else match fFirst b with
  | some x => some [-5, (x.1 : Int), (x.2 : Int)]
  | none => none
def isOL (o : Option (List Int)) (v : V) (H : Hp) : Prop := match o with
  | none => v = .non
  | some l => ∃ p, v = .ref p ∧ H p = some (.lst (l.map V.int))
section
variable {P : Program} {w : World} {K : PySem.W.Frag} {mg : Str → Option Value} {base : Heap} {C : Addr}
theorem el_catV {σ : L2.St} {H : Hp} {ta tb : TE} {xs ys : List V} {q : Addr} (ha : EvL ta σ H xs) (hb : Ev tb σ H (.ref q)) (hq : H q = some (.lst ys)) (hz : xs.length + ys.length ≤ 200000) : EvL (tOp rCat ta tb) σ H (xs ++ ys) := fun H1 e Q k =>
  ha H1 e _ fun a H2 ha2 e2 h2 => hb H2 (e.trans e2) _ fun H3 e3 => ⟨a, q, xs, ys, rfl, rfl, e3 _ _ h2, ((e.trans e2).trans e3) _ _ hq, Nat.le_trans hz (by decide), fun p hp => k p _ (fresh_back (e2.trans e3) hp) ((e2.trans e3).trans (Ex.new hp)) upd_same⟩
def Ash : List V → Hp → V → Prop := fun vs H v => ∃ s : LeadShop, vs = shopV s ∧ v = .bl s.ok
theorem Ash.mono : Mono Ash := fun vs H H' v e h => h
abbrev s_is_shop : Stmt := topS 83
abbrev N_is_shop : List Str := ["a", "b", "bar", "joint", "loss", "bend"]
theorem sc_is_shop : FnScope N_is_shop ["a", "b", "bar", "joint", "loss"] (defScope s_is_shop) := ⟨rfl, rfl, rfl, by decide +kernel, rfl, by decide +kernel, by decide +kernel⟩
theorem k_is_shop (F : Dfn K mg "is_shop" s_is_shop ["a", "b", "bar", "joint", "loss"]) : Cal P w K mg base 1 "is_shop" (spV Ash) := by
  refine mk_V F sc_is_shop (fun vs H v h => by obtain ⟨s, rfl, _⟩ := h; rfl) (fun f cdv A' outer s0 H vs E v hr a => ?_)
  obtain ⟨s, rfl, rfl⟩ := a
  refine ⟨_, (pss_cons (ps_set (i := 5) sc_is_shop.nd rfl (Or.inl rfl) (pe_and (pe_chain op_le op_le pe_int (pv 0) pe_int) (pe_one (pe_chain op_le op_le pe_int (pv 1) pe_int))))
      (pss_one (ps_ret (pe_and (pv 5) (pe_and (pe_chain op_le op_le pe_int (pv 2) pe_int) (pe_and (pe_chain op_le op_le pe_int (pv 3) pe_int) (pe_one (pe_chain op_le op_le pe_int (pv 4) pe_int)))))))), fun Q kq => ?_⟩
  apply q_asg
  · walk_at "ev"
  · intro H1 e1
    apply s_ret
    · walk_at "ev"
    · intro H2 e2
      have hv : s.ok = (((decide ((0 : Int) ≤ s.a) && decide ((s.a : Int) ≤ 1000)) && (decide ((1 : Int) ≤ s.b) && decide ((s.b : Int) ≤ 1000))) && ((decide ((1 : Int) ≤ s.bar) && decide ((s.bar : Int) ≤ 16777215)) && ((decide ((0 : Int) ≤ s.joint) && decide ((s.joint : Int) ≤ 65535)) && (decide ((0 : Int) ≤ s.loss) && decide ((s.loss : Int) ≤ 65535))))) := by
        rw [LeadShop.ok, Bool.eq_iff_iff]
        simp only [GlaPlan.within, Bool.and_eq_true, decide_eq_true_eq]
        omega
      have := kq H2 (e1.trans e2)
      rw [hv] at this; exact this
def Arf (K : PySem.W.Frag) : List V → Hp → (V → Hp → Prop) → Prop := fun vs H R => ∃ (s : LeadShop) (x : V) (b : List UInt8), vs = shopV s ++ [x] ∧ isBy K b x H ∧ R = isOL (refuse s b)
theorem Arf.mono : Mono (Arf K) := fun vs H H' v e ⟨s, x, b, h, h1, h2⟩ => ⟨s, x, b, h, h1.mono e, h2⟩
abbrev s_refusal_of : Stmt := topS 84
abbrev N_refusal_of : List Str := ["a", "b", "bar", "joint", "loss", "cartoon", "fault"]
theorem sc_refusal_of : FnScope N_refusal_of ["a", "b", "bar", "joint", "loss", "cartoon"] (defScope s_refusal_of) := ⟨rfl, rfl, rfl, by decide +kernel, rfl, by decide +kernel, by decide +kernel⟩
theorem k_refusal_of (T : Txt K mg) (F : Dfn K mg "refusal_of" s_refusal_of ["a", "b", "bar", "joint", "loss", "cartoon"]) (c_is_shop : Cal P w K mg base 1 "is_shop" (spV Ash)) (c_first_fault : Cal P w K mg base 7 "first_fault" (spR (Aff K))) : Cal P w K mg base 8 "refusal_of" (spR (Arf K)) := by
  refine mk_R F sc_refusal_of (fun vs H v h => by obtain ⟨s, _, _, rfl, _⟩ := h; rfl) (fun f cdv A' outer s0 H vs E v hr a => ?_)
  obtain ⟨s, x, b, rfl, ib, rfl⟩ := a
  have m1 : Mono Ash := Ash.mono
  have a1 : Ash (shopV s) H (.bl s.ok) := ⟨s, rfl, rfl⟩
  have hbl : (byV b).length = b.length := by rw [byV, List.length_map]
  refine ⟨_, (pss_cons (ps_if (pt_not (pt_val (pe_c c_is_shop hr (by decide) (by rfl) (pa_cons (pv 0) (pa_cons (pv 1) (pa_cons (pv 2) (pa_cons (pv 3) (pa_cons (pv 4) pa_nil)))))))) (pss_one (ps_ret (pe_lst (pa_cons (pe_un un_neg pe_int) pa_nil)))) pss_nil)
      (pss_cons (ps_if (pt_cmpR op_gt (pe_callB call_len_seq (by rfl) T.len PySem.boot_len (pa_cons (pv 5) pa_nil)) (pe_gc (by rfl) T.g_MOST_BYTES) (nomark _)) (pss_one (ps_ret (pe_lst (pa_cons (pe_un un_neg pe_int) pa_nil)))) pss_nil)
      (pss_cons (ps_set (i := 6) sc_refusal_of.nd rfl (Or.inl rfl) (pe_c c_first_fault hr (by decide) (by rfl) (pa_cons (pv 5) pa_nil)))
      (pss_cons (ps_if (pt_cmpR op_notN (pv 6) pe_non (nomark _)) (pss_one (ps_ret (pe_op op_cat (pe_lst (pa_cons (pe_un un_neg pe_int) pa_nil)) (pv 6)))) pss_nil)
      (pss_one (ps_ret pe_non)))))), fun Q kq => ?_⟩
  apply q_when (b := !s.ok)
  · refine et_not (et_B (ev_callV m1 (vs := shopV s) ?_ a1))
    walk_at "ev"
  · intro hb H1 e1
    have hok : s.ok = false := by simpa using hb
    apply s_retL (xs := [.int (-1)])
    · exact el_lst (ea_cons (ev_un ev_c ru_neg) ea_nil) (by simp)
    · intro p H2 hp e2 h2
      refine kq _ H2 (e1.trans e2) ?_
      rw [refuse, if_pos hok]
      exact ⟨p, rfl, h2⟩
  · intro hb H1 e1
    have hok : ¬ s.ok = false := by simpa using hb
    obtain ⟨hb2, l, rfl, hl⟩ := ib.mono e1
    apply q_when (b := decide (131072 < b.length))
    · refine et_is (a := decide (((byV b).length : Int) > 131072)) ?_ (by rw [hbl, Bool.eq_iff_iff]; simp; omega)
      walk_at "ev"
    · intro hb3 H2 e2
      apply s_retL (xs := [.int (-6)])
      · exact el_lst (ea_cons (ev_un ev_c ru_neg) ea_nil) (by simp)
      · intro p H3 hp e3 h3
        refine kq _ H3 ((e1.trans e2).trans e3) ?_
        rw [refuse, if_neg hok, if_pos (of_decide_eq_true hb3)]
        exact ⟨p, rfl, h3⟩
    · intro hb3 H2 e2
      have hrf : refuse s b = match fFirst b with
          | some x => some [-5, (x.1 : Int), (x.2 : Int)]
          | none => none := by rw [refuse, if_neg hok, if_neg (of_decide_eq_false hb3)]
      rw [hrf] at kq
      clear hrf
      apply q_asgR
      · exact er_callR Aff.mono (vs := [.ref l]) (ea_cons (ev_var rfl) ea_nil) ⟨.ref l, b, rfl, (ib.mono e1).mono e2, rfl⟩
      · intro v H3 e3 iv
        have e03 := (e1.trans e2).trans e3
        generalize fFirst b = o at *
        cases o with
        | none =>
          obtain rfl : v = .non := iv
          apply q_when (b := false)
          · exact et_test fun H4 e4 Q q => ⟨.non, rfl, rfl, q H4 (Ex.refl H4)⟩
          · intro z; cases z
          · intro _ H4 e4
            apply s_ret
            · exact ev_c
            · exact fun H5 e5 => kq _ H5 ((e03.trans e4).trans e5) rfl
        | some z =>
          obtain ⟨p, rfl, hp⟩ := iv
          apply q_when (b := true)
          · exact et_test fun H4 e4 Q q => ⟨.ref p, rfl, rfl, q H4 (Ex.refl H4)⟩
          · intro _ H4 e4
            apply s_retL
            · exact el_catV (el_lst (ea_cons (ev_un ev_c ru_neg) ea_nil) (by simp)) (ev_var rfl) (e4 _ _ hp) (by simp)
            · intro l2 H5 hl2 e5 h5
              exact kq _ H5 ((e03.trans e4).trans e5) ⟨l2, rfl, h5⟩
          · intro z; cases z
end
end Hl
end PHl19

section PHl20
set_option Elab.async false
set_option linter.all false
set_option maxRecDepth 100000
set_option maxHeartbeats 2000000
local macro_rules | `(tactic| walk_at "ev") => `(tactic| (first
  | exact Evl.ev_c
  | exact Evl.ev_var rfl
  | (apply Hl.ev_I0 <;> walk_at "ev")
  | (apply Hl.ev_I <;> walk_at "ev")
  | (apply Hl.ev_ixT <;> walk_at "ev")
  | (apply Hl.ev_ixL <;> walk_at "ev")
  | exact Evl.ea_nil
  | (apply Evl.ea_cons <;> walk_at "ev")
  | (apply Hl.ev_callV <;> first | assumption | walk_at "ev")
  | (apply Hl.ev_eq <;> walk_at "ev")
  | (apply Hl.ev_ne <;> walk_at "ev")
  | (apply Hl.ev_fld <;> first | assumption | walk_at "ev")
  | (apply Hl.ev_lenL <;> first | assumption | walk_at "ev")
  | (apply Hl.ev_chain <;> first | (refine fun (_ : _ = _) => ?_; walk_at "ev") | walk_at "ev")
  | (apply Evl.ev_orV <;> first | (refine fun (_ : _ = _) => ?_; walk_at "ev") | walk_at "ev")
  | (apply Evl.ev_andV <;> first | (refine fun (_ : _ = _) => ?_; walk_at "ev") | walk_at "ev")
  | (apply Evl.ev_notV <;> walk_at "ev")
  | (apply Evl.et_test <;> walk_at "ev")
  | (apply Evl.et_B <;> walk_at "ev")
  | (apply Evl.et_not <;> walk_at "ev")
  | (apply Evl.et_and <;> first | (refine fun (_ : _ = _) => ?_; walk_at "ev") | walk_at "ev")
  | (apply Evl.et_or <;> first | (refine fun (_ : _ = _) => ?_; walk_at "ev") | walk_at "ev")
  | assumption
  | (exact Evl.st_of (by assumption))
  | exact rfl
  | skip))

namespace Hl
open PySem PySem.Spec PyProof.Rows L2 Evl
open GlaPlan (Pt Plan)
open GlaLead (LeadShop)
theorem inV_2 (x a b : Nat) : inV (.int (x : Int)) [.int (a : Int), .int (b : Int)] = (x == a || x == b) := by
  rw [inV_two, Bool.eq_iff_iff]
  simp only [Bool.or_eq_true, decide_eq_true_eq, beq_iff_eq]
  omega
section
variable {P : Program} {w : World} {K : PySem.W.Frag} {mg : Str → Option Value} {base : Heap} {C : Addr}
abbrev s_is_lead : Stmt := topS 27
abbrev N_is_lead : List Str := ["drawing", "line", "p", "q", "upright", "level"]
theorem sc_is_lead : FnScope N_is_lead ["drawing", "line"] (defScope s_is_lead) := ⟨rfl, rfl, rfl, by decide +kernel, rfl, by decide +kernel, by decide +kernel⟩
theorem k_is_lead (D : DrC K C) (F : Dfn K mg "is_lead" s_is_lead ["drawing", "line"]) : Cal P w K mg base 1 "is_lead" (spV (Adl K C fun S l => .bl (!GlaLead.frameLine S l))) := by
  refine mk_V F sc_is_lead (fun vs H v h => by obtain ⟨_, _, _, _, rfl, _⟩ := h; rfl) (fun f cdv A' outer s H vs E v hr a => ?_)
  obtain ⟨x, y, S, l, rfl, id, ⟨al, rfl, hl⟩, hl1, hl2, rfl⟩ := a
  obtain ⟨a, dx, fs, vp, vl, vm, rfl, h2, f1, f2, f3, f4, f5, ⟨lp, us, rfl, hp, ip⟩, il, im⟩ := id
  have cl := D.cl
  have n1 := D.n1
  have n2 := D.n2
  have n3 := D.n3
  obtain ⟨u1, g1, ⟨b1, a1, rfl, i1⟩⟩ := ip.pt hl1
  obtain ⟨u2, g2, ⟨b2, a2, rfl, i2⟩⟩ := ip.pt hl2
  have hf : GlaLead.frameLine S l = (((decide (V.int ((S.pt l.1).x : Int) = .int ((S.pt l.2).x : Int))) && inV (.int ((S.pt l.1).x : Int)) [.int (0 : Nat), .int (S.w : Int)]) || ((decide (V.int ((S.pt l.1).y : Int) = .int ((S.pt l.2).y : Int))) && inV (.int ((S.pt l.1).y : Int)) [.int (0 : Nat), .int (S.h : Int)])) := by
    rw [inV_2, inV_2, Bool.eq_iff_iff]
    simp only [GlaLead.frameLine, Bool.or_eq_true, Bool.and_eq_true, decide_eq_true_eq, beq_iff_eq, V.int.injEq]
    omega
  refine ⟨_, (pss_cons (ps_set (i := 2) sc_is_lead.nd rfl (Or.inl rfl) (pe_ix ix_list (pe_fld (pv 0) rfl) (pe_ix ix_tup (pv 1) pe_int (fun _ _ => rfl)) (fun _ _ => rfl)))
      (pss_cons (ps_set (i := 3) sc_is_lead.nd rfl (Or.inl rfl) (pe_ix ix_list (pe_fld (pv 0) rfl) (pe_ix ix_tup (pv 1) pe_int (fun _ _ => rfl)) (fun _ _ => rfl)))
      (pss_cons (ps_set (i := 4) sc_is_lead.nd rfl (Or.inl rfl) (pe_and (pe_cmpR op_eq (pe_ix ix_tup (pv 2) pe_int (fun _ _ => rfl)) (pe_ix ix_tup (pv 3) pe_int (fun _ _ => rfl)) (nomark _)) (pe_one (pe_cmpR op_in_seq (pe_ix ix_tup (pv 2) pe_int (fun _ _ => rfl)) (pe_tup (pa_cons pe_int (pa_cons (pe_fld (pv 0) rfl) pa_nil))) rfl))))
      (pss_cons (ps_set (i := 5) sc_is_lead.nd rfl (Or.inl rfl) (pe_and (pe_cmpR op_eq (pe_ix ix_tup (pv 2) pe_int (fun _ _ => rfl)) (pe_ix ix_tup (pv 3) pe_int (fun _ _ => rfl)) (nomark _)) (pe_one (pe_cmpR op_in_seq (pe_ix ix_tup (pv 2) pe_int (fun _ _ => rfl)) (pe_tup (pa_cons pe_int (pa_cons (pe_fld (pv 0) rfl) pa_nil))) rfl))))
      (pss_one (ps_ret (pe_not (pe_or (pv 4) (pe_one (pv 5)))))))))), fun Q kq => ?_⟩
  replace kq : ∀ H', Ex H H' → Q (.bl (!GlaLead.frameLine S l)) H' := kq
  rw [hf] at kq
  apply q_asg
  · walk_at "ev"
  · intro H1 e1
    have h21 := e1 _ _ h2
    have hp1 := ex_l e1 hp
    have hl' := e1 _ _ hl
    apply q_asg
    · walk_at "ev"
    · intro H2 e2
      have e02 := e1.trans e2
      have h22 := e02 _ _ h2
      have i12 := ex_t e02 i1
      have i22 := ex_t e02 i2
      apply q_asg
      · apply ev_andV
        · walk_at "ev"
        · intro _
          apply ev_inU
          · walk_at "ev"
          · walk_at "ev"
          · simp
          · rfl
          · rfl
      · intro H3 e3
        have h23 := e3 _ _ h22
        have i13 := ex_t e3 i12
        have i23 := ex_t e3 i22
        apply q_asg
        · apply ev_andV
          · walk_at "ev"
          · intro _
            apply ev_inU
            · walk_at "ev"
            · walk_at "ev"
            · simp
            · rfl
            · rfl
        · intro H4 e4
          apply s_ret
          · walk_at "ev"
          · exact fun H5 e5 => kq H5 (((e02.trans e3).trans e4).trans e5)
/-! ### leads -/
def Alds (K : PySem.W.Frag) (C : Addr) : List V → Hp → (V → Hp → Prop) → Prop := fun vs H R => ∃ (x : V) (S : Plan), vs = [x] ∧ isDr K C S x H ∧ GL S ∧ S.lines.length ≤ 70000 ∧
  R = fun v H' => ∃ p, v = .ref p ∧ H' p = some (.lst ((GlaLead.leads S).map fun (n : Nat) => V.int (n : Int)))
theorem Alds.mono : Mono (Alds K C) := fun vs H H' v e ⟨x, S, h, h1, h2⟩ => ⟨x, S, h, h1.mono e, h2⟩
theorem sel_leads (S : Plan) : sel (fun l => !GlaLead.frameLine S l) S.lines = GlaLead.leads S := by
  rw [sel, GlaLead.leads]
  apply List.filter_congr
  intro i hi
  have hi := List.mem_range.1 hi
  rw [List.getElem?_eq_getElem hi, GlaLead.isLead, decide_eq_true hi, Bool.true_and, List.getD_eq_getElem?_getD, List.getElem?_eq_getElem hi]
  rfl
abbrev s_leads_of : Stmt := topS 28
abbrev N_leads_of : List Str := ["drawing", "i", "line"]
theorem sc_leads_of : FnScope N_leads_of ["drawing"] (defScope s_leads_of) := ⟨rfl, rfl, rfl, by decide +kernel, rfl, by decide +kernel, by decide +kernel⟩
theorem k_leads_of (T : Txt K mg) (D : DrC K C) (F : Dfn K mg "leads_of" s_leads_of ["drawing"]) (c_is_lead : Cal P w K mg base 1 "is_lead" (spV (Adl K C fun S l => .bl (!GlaLead.frameLine S l)))) : Cal P w K mg base 2 "leads_of" (spR (Alds K C)) := by
  refine mk_R F sc_leads_of (fun vs H v h => by obtain ⟨_, _, rfl, _⟩ := h; rfl) (fun f cdv A' outer s H vs E v hr a => ?_)
  obtain ⟨x, S, rfl, id, gl, nl, rfl⟩ := a
  have id0 := id
  obtain ⟨a, dx, fs, vp, vl, vm, rfl, h2, f1, f2, f3, f4, f5, ip, ⟨ll, ul, rfl, hl, il⟩, im⟩ := id
  have cl := D.cl
  have n4 := D.n4
  have m1 : Mono (Adl K C fun S l => .bl (!GlaLead.frameLine S l)) := Adl.mono
  refine ⟨_, (pss_one (ps_ret (pe_lc (own := [("i", 1), ("line", 2)]) (by rfl) sc_leads_of.nd (pi_enum (by rfl) T.enumerate (pa_cons (pe_fld (pv 0) rfl) pa_nil)) (blkOk_by (own := [("i", 1), ("line", 2)]) (N := N_leads_of) (sc := defScope s_leads_of) (by decide +kernel)) (fun _ _ _ _ _ => (pg_tupK (K := K) (n := 2) rfl (by rfl) (pgs_cons (pg_name (i := 1) sc_leads_of.nd rfl (Or.inl rfl)) (pgs_cons (pg_name (i := 2) sc_leads_of.nd rfl (Or.inl rfl)) pgs_nil)))) (fun _ _ _ _ _ => (pts_one (pt_val (pe_c c_is_lead hr (by decide) (by rfl) (pa_cons (pv 0) (pa_cons (pv 2) pa_nil)))))) (fun _ _ _ _ _ => (pv 1))))), fun Q kq => ?_⟩
  apply s_retF
  · refine ef_lcE monoPr (a := ll) (us := ul) (xs := S.lines) ?_ hl il (fun l => !GlaLead.frameLine S l) (by omega) (fun _ _ => rfl) ?_ (fun i v H' => ev_var rfl)
    · walk_at "ev"
    · intro i l v H1 hx e1 iv
      have a1 : Adl K C (fun S l => .bl (!GlaLead.frameLine S l)) [.ref a, v] H1 (.bl (!GlaLead.frameLine S l)) := ⟨.ref a, v, S, l, rfl, id0.mono e1, iv, (gl l (List.mem_of_getElem? hx)).1, (gl l (List.mem_of_getElem? hx)).2, rfl⟩
      walk_at "ev"
  · rintro p H1 hp e1 h1
    rw [sel_leads] at h1
    exact kq _ H1 e1 ⟨p, rfl, h1⟩
end
end Hl
end PHl20

section PHl21
set_option Elab.async false
set_option linter.all false
set_option maxRecDepth 100000
set_option maxHeartbeats 2000000
local macro_rules | `(tactic| walk_at "ev") => `(tactic| (first
  | exact Evl.ev_c
  | exact Evl.ev_var rfl
  | (apply Hl.ev_I0 <;> walk_at "ev")
  | (apply Hl.ev_I <;> walk_at "ev")
  | (apply Hl.ev_ixT <;> walk_at "ev")
  | (apply Hl.ev_ixL <;> walk_at "ev")
  | exact Evl.ea_nil
  | (apply Evl.ea_cons <;> walk_at "ev")
  | (apply Hl.ev_callV <;> first | assumption | walk_at "ev")
  | (apply Hl.ev_eq <;> walk_at "ev")
  | (apply Hl.ev_ne <;> walk_at "ev")
  | (apply Hl.ev_fld <;> first | assumption | walk_at "ev")
  | (apply Hl.ev_lenL <;> first | assumption | walk_at "ev")
  | (apply Hl.ev_chain <;> first | (refine fun (_ : _ = _) => ?_; walk_at "ev") | walk_at "ev")
  | (apply Evl.ev_orV <;> first | (refine fun (_ : _ = _) => ?_; walk_at "ev") | walk_at "ev")
  | (apply Evl.ev_andV <;> first | (refine fun (_ : _ = _) => ?_; walk_at "ev") | walk_at "ev")
  | (apply Evl.ev_notV <;> walk_at "ev")
  | (apply Evl.et_test <;> walk_at "ev")
  | (apply Evl.et_B <;> walk_at "ev")
  | (apply Evl.et_not <;> walk_at "ev")
  | (apply Evl.et_and <;> first | (refine fun (_ : _ = _) => ?_; walk_at "ev") | walk_at "ev")
  | (apply Evl.et_or <;> first | (refine fun (_ : _ = _) => ?_; walk_at "ev") | walk_at "ev")
  | assumption
  | (exact Evl.st_of (by assumption))
  | exact rfl
  | skip))

namespace Hl
open PySem PySem.Spec PyProof.Rows L2 Evl
open GlaPlan (Pt Plan)
open GlaLead (LeadShop)
def latOf (S : Plan) (ls : List Nat) (v : Nat) : List Nat := ls.filter fun i => (GlaLead.lineOf S i).1 == v || (GlaLead.lineOf S i).2 == v
def stepA (f : Nat → List Nat) (x : Nat) (es : List Nat) : Nat → List Nat := fun j => if j ∈ es then f j ++ [x] else f j
theorem lat_snoc (S : Plan) (ls : List Nat) (x : Nat) : latOf S (ls ++ [x]) = stepA (latOf S ls) x [(GlaLead.lineOf S x).1, (GlaLead.lineOf S x).2] := by
  funext v
  rw [latOf, List.filter_append, stepA]
  by_cases h : v ∈ [(GlaLead.lineOf S x).1, (GlaLead.lineOf S x).2]
  · rw [if_pos h]
    congr 1
    simp at h
    simp; omega
  · rw [if_neg h]
    simp at h
    simp [latOf]; omega
theorem lat_len (S : Plan) (ls : List Nat) (v : Nat) : (latOf S ls v).length ≤ ls.length := List.length_filter_le _ _
theorem leads_len (S : Plan) : (GlaLead.leads S).length ≤ S.lines.length := by
  rw [GlaLead.leads]
  exact Nat.le_trans (List.length_filter_le _ _) (by simp)
theorem leads_lt {S : Plan} {i : Nat} (h : i ∈ GlaLead.leads S) : i < S.lines.length := List.mem_range.1 (List.mem_filter.1 h).1
theorem lineOf_get {S : Plan} {i : Nat} (h : i < S.lines.length) : S.lines[i]? = some (GlaLead.lineOf S i) := by
  rw [GlaLead.lineOf, List.getD_eq_getElem?_getD, List.getElem?_eq_getElem h]; rfl
section
variable {P : Program} {w : World} {K : PySem.W.Frag} {mg : Str → Option Value} {base : Heap} {C : Addr}
def latsOf (S : Plan) : List (List Nat) := (List.range S.pts.length).map (GlaLead.leadsAt S)
def Albp (K : PySem.W.Frag) (C : Addr) : List V → Hp → (V → Hp → Prop) → Prop := fun vs H R => ∃ (x : V) (S : Plan), vs = [x] ∧ isDr K C S x H ∧ GN S ∧ R = isG K (latsOf S)
theorem Albp.mono : Mono (Albp K C) := fun vs H H' v e ⟨x, S, h, h1, h2⟩ => ⟨x, S, h, h1.mono e, h2⟩
abbrev s_leads_by_point : Stmt := topS 29
abbrev N_leads_by_point : List Str := ["drawing", "leads_at", "lead", "point"]
theorem sc_leads_by_point : FnScope N_leads_by_point ["drawing"] (defScope s_leads_by_point) := ⟨rfl, rfl, rfl, by decide +kernel, rfl, by decide +kernel, by decide +kernel⟩
theorem k_leads_by_point (T : Txt K mg) (D : DrC K C) (F : Dfn K mg "leads_by_point" s_leads_by_point ["drawing"]) (c_leads_of : Cal P w K mg base 2 "leads_of" (spR (Alds K C))) : Cal P w K mg base 3 "leads_by_point" (spR (Albp K C)) := by
  refine mk_R F sc_leads_by_point (fun vs H v h => by obtain ⟨_, _, rfl, _⟩ := h; rfl) (fun f cdv A' outer s H vs E v hr a => ?_)
  obtain ⟨x, S, rfl, id, gn, rfl⟩ := a
  have id0 := id
  obtain ⟨a, dx, fs, vp, vl, vm, rfl, h2, f1, f2, f3, f4, f5, ⟨lp, us, rfl, hp, ip⟩, ⟨ll, ul, rfl, hl, il⟩, im⟩ := id
  have cl := D.cl
  have n3 := D.n3
  have n4 := D.n4
  refine ⟨_, (pss_cons (ps_setLc (i := 1) (own := [("point", 3)]) (by rfl) sc_leads_by_point.nd rfl rfl (sw_true rfl rfl rfl (by decide +kernel)) (pi_list (pe_fld (pv 0) rfl)) (blkOk_by (own := [("point", 3)]) (N := N_leads_by_point) (sc := defScope s_leads_by_point) (by decide +kernel)) (fun _ _ _ _ _ => (pg_name (i := 3) sc_leads_by_point.nd rfl (Or.inl rfl))) (fun _ _ _ _ _ => pts_nil) (fun _ _ _ _ _ => (pe_lst pa_nil)))
      (pss_cons (ps_for PassesOwn.never rfl (pi_list (pe_c c_leads_of hr (by decide) (by rfl) (pa_cons (pv 0) pa_nil))) (pg_name (i := 2) sc_leads_by_point.nd rfl (Or.inl rfl))
        (pss_one (ps_for PassesOwn.never rfl (pi_tup (pe_ix ix_list (pe_fld (pv 0) rfl) (pv 2) (fun _ _ => rfl))) (pg_name (i := 3) sc_leads_by_point.nd rfl (Or.inl rfl))
        (pss_one (ps_expr (pe_bm PySem.F.plainAttrs_list PySem.F.slot_list_append PySem.F.type_list_append mt_append (pe_ix ix_list (pv 1) (pv 3) (fun _ _ => rfl)) (pa_cons (pv 2) pa_nil)))))))
      (pss_one (ps_ret (pv 1))))), fun Q kq => ?_⟩
  apply q_asgX
  refine ef_lcNew (a := lp) (xs := us) ?_ hp (by rw [ip.1]; have := gn.np; omega) ?_ H (Ex.refl H) _ ?_
  · walk_at "ev"
  · exact fun x => rfl
  · intro N as H1 e1 hlen nb
    rw [ip.1] at hlen
    have h21 := e1 _ _ h2
    dsimp only
    have er := er_callR (σ := [some (.ref a), some (.ref N), none, none]) (H := H1) (tr := tCons (tVar 0) tNil) Alds.mono (vs := [.ref a]) (ea_cons (ev_var rfl) ea_nil) ⟨.ref a, S, rfl, id0.mono e1, gn.inp, gn.nl, rfl⟩
    refine er H1 (Ex.refl H1) _ ?_
    rintro v H2 e2 ⟨p, rfl, hpl⟩
    have e02 := e1.trans e2
    have nb2 := nb.mono e2
    generalize hL : GlaLead.leads S = L at *
    have hLm : ∀ i ∈ L, i < S.lines.length := fun i hi => leads_lt (by rw [hL]; exact hi)
    have hLl : L.length ≤ 70000 := by rw [← hL]; exact Nat.le_trans (leads_len S) gn.nl
    have apart : L ≠ [] → p ≠ N ∧ p ∉ as := by
      intro hne
      obtain ⟨l0, lr, rfl⟩ := List.exists_cons_of_ne_nil hne
      constructor
      · rintro rfl
        have := nb2.lst
        rw [hpl] at this
        cases as with
        | nil => cases this
        | cons b r => cases this
      · intro hm
        obtain ⟨k, hk⟩ := List.mem_iff_getElem?.1 hm
        have := nb2.at_ k p hk
        rw [hpl] at this
        cases this
    refine ⟨p, rfl, ⟨_, sq_of hpl⟩, for_list (xs := L.map fun (n : Nat) => V.int (n : Int)) (fun i σ' H' => ∃ o2 o3, σ' = [some (.ref a), some (.ref N), o2, o3] ∧ Ex H H' ∧ H' p = some (.lst (L.map fun (n : Nat) => V.int (n : Int))) ∧ NB H H' N as (latOf S (L.take i))) ⟨_, _, rfl, e02, hpl, ?_⟩ ?_ ?_ ?_⟩
    · exact ⟨nb2.lst, nb2.nd, nb2.nn, nb2.at_, nb2.fN, nb2.fa⟩
    · rintro i σ' H' _ ⟨o2, o3, _, _, h, _⟩
      exact sq_of h
    · rintro i v σ' H3 hv ⟨o2, o3, rfl, e3, hp3, n⟩
      rw [List.getElem?_map] at hv
      obtain ⟨ld, hld, rfl⟩ := Option.map_eq_some_iff.1 hv
      have hLne : L ≠ [] := by intro z; rw [z] at hld; simp at hld
      obtain ⟨pN, pas⟩ := apart hLne
      have hlm := hLm ld (List.mem_of_getElem? hld)
      have hline := lineOf_get hlm
      obtain ⟨lv, hlv, av, rfl, ha⟩ := il.2 ld _ hline
      have hmem := List.mem_of_getElem? hline
      obtain ⟨m1, m2⟩ := gn.inp _ hmem
      have mlt := gn.lt _ hmem
      have et : L.take (i + 1) = L.take i ++ [ld] := by rw [List.take_add_one, hld]; rfl
      rw [et, lat_snoc]
      generalize GlaLead.lineOf S ld = m at *
      have h23 := e3 _ _ h2
      have hl3 := ex_l e3 hl
      have hlv' := atI_nat hlv
      have hlen2 : ∀ v, (latOf S (L.take i) v).length ≤ 70000 := fun v => Nat.le_trans (lat_len _ _ _) (by rw [List.length_take]; omega)
      refine s_forT (a := av) (xs := [.int (m.1 : Int), .int (m.2 : Int)]) ?_ (st_of (e3 _ _ ha)) (fun k σ' H' => ∃ o3, σ' = [some (.ref a), some (.ref N), some (.int (ld : Int)), o3] ∧ Ex H H' ∧ H' p = some (.lst (L.map fun (n : Nat) => V.int (n : Int))) ∧ NB H H' N as (stepA (latOf S (L.take i)) ld ([m.1, m.2].take k))) ?_ ?_ ?_ ?_
      · walk_at "ev"
      · intro H4 e4
        refine ⟨_, rfl, e3.trans e4, e4 _ _ hp3, ?_⟩
        have := n.mono e4
        exact ⟨this.lst, this.nd, this.nn, fun k b hb => by rw [this.at_ k b hb]; simp [stepA], this.fN, this.fa⟩
      · rintro k σ' H' _ ⟨_, _, e, _⟩
        exact st_of (e _ _ ha)
      · rintro k v σ' H4 hv ⟨o3, rfl, e4, hp4, n4'⟩
        obtain ⟨pt, hpt, hptm, rfl⟩ : ∃ pt : Nat, [m.1, m.2][k]? = some pt ∧ pt ∉ [m.1, m.2].take k ∧ v = .int (pt : Int) := by
          match k, hv with
          | 0, hv => exact ⟨m.1, rfl, by simp, (Option.some.inj hv).symm⟩
          | 1, hv => exact ⟨m.2, rfl, by simp; omega, (Option.some.inj hv).symm⟩
        have hptl : pt < S.pts.length := by
          have := List.mem_of_getElem? hpt
          rcases (show pt = m.1 ∨ pt = m.2 by simpa using this) with z | z <;> omega
        obtain ⟨a1, g1⟩ : ∃ a1, as[pt]? = some a1 := ⟨_, List.getElem?_eq_getElem (by omega)⟩
        have t1 : atI (as.map V.ref) (pt : Int) = some (.ref a1) := atI_nat (by rw [List.getElem?_map, g1]; rfl)
        have nl2 : SqL K H4 N (as.map V.ref) := sq_of n4'.lst
        have et2 : [m.1, m.2].take (k + 1) = [m.1, m.2].take k ++ [pt] := by rw [List.take_add_one, hpt]; rfl
        have hat := n4'.at_ _ _ g1
        rw [stepA, if_neg hptm] at hat
        refine s_app (v := .int (ld : Int)) hat ?_ ?_ (by rw [List.length_map]; have := hlen2 pt; omega) ?_
        · walk_at "ev"
        · walk_at "ev"
        · intro H5 e5
          have n5 := (n4'.mono e5).put g1 ld
          have ha1 := List.mem_of_getElem? g1
          rw [stepA, if_neg hptm] at n5
          refine ⟨_, rfl, Ex.mut (e4.trans e5) (n.fa a1 ha1), ?_, ?_⟩
          · rw [upd_ne (by rintro rfl; exact pas ha1)]; exact e5 _ _ hp4
          · refine ⟨n5.lst, n5.nd, n5.nn, fun j b hb => ?_, n5.fN, n5.fa⟩
            rw [n5.at_ j b hb, et2]
            by_cases z : j = pt
            · rw [if_pos z, z]; simp [stepA]
            · rw [if_neg z]; simp [stepA, z]
      · rintro σ' H4 ⟨o3, rfl, e4, hp4, n4'⟩
        exact ⟨_, _, rfl, e4, hp4, n4'⟩
    · rintro σ' H3 ⟨o2, o3, rfl, e3, hp3, n⟩
      dsimp only
      apply s_ret
      · exact ev_var rfl
      · intro H4 e4
        refine kq _ H4 (e3.trans e4) ?_
        have := (n.mono e4).isG (K := K)
        rw [List.length_map, List.take_length, hlen] at this
        have ee : latsOf S = (List.range S.pts.length).map (latOf S L) := by
          rw [latsOf]
          apply List.map_congr_left
          intro v _
          rw [GlaLead.leadsAt, hL]; rfl
        rw [ee]; exact this
end
end Hl
end PHl21

section PRl10
set_option Elab.async false
set_option linter.all false
set_option maxRecDepth 100000
set_option maxHeartbeats 2000000
namespace Hl
open PySem PySem.Spec PyProof.Rows Srt SrtO
/-! ### sorted of triples of whole numbers -/
abbrev Z3 := Int × Int × Int
def lex3 (p q : Z3) : Bool := if p.1 = q.1 then (if p.2.1 = q.2.1 then decide (p.2.2 < q.2.2) else decide (p.2.1 < q.2.1)) else decide (p.1 < q.1)
theorem lex3_iff {p q : Z3} : lex3 p q = true ↔ p.1 < q.1 ∨ (p.1 = q.1 ∧ (p.2.1 < q.2.1 ∨ (p.2.1 = q.2.1 ∧ p.2.2 < q.2.2))) := by
  unfold lex3
  by_cases e : p.1 = q.1
  · rw [if_pos e]
    by_cases e2 : p.2.1 = q.2.1
    · rw [if_pos e2, decide_eq_true_eq]; omega
    · rw [if_neg e2, decide_eq_true_eq]; omega
  · rw [if_neg e, decide_eq_true_eq]; omega
theorem lex3_no {p q : Z3} : lex3 p q = false ↔ ¬ (p.1 < q.1 ∨ (p.1 = q.1 ∧ (p.2.1 < q.2.1 ∨ (p.2.1 = q.2.1 ∧ p.2.2 < q.2.2)))) := by
  rw [← lex3_iff]
  cases lex3 p q <;> simp
theorem swo3 {α : Type} (k : α → Z3) : Swo fun v u => lex3 (k v) (k u) := by
  refine ⟨fun x y h => ?_, fun x y z h1 h2 => ?_⟩
  · have a := lex3_iff.mp h
    refine lex3_no.mpr ?_
    omega
  · have a := lex3_no.mp h1
    have b := lex3_no.mp h2
    refine lex3_no.mpr ?_
    omega
section
variable {prog : Program} {w : World} {A : Around} {E : Value → Shared → Prop} {s : Shared}
def IsTri (h : Heap) (v : Value) (z : Z3) : Prop := ∃ a o t u r n, v = .ref a ∧ h.get? a = some o ∧ o.cls = .type "tuple" ∧ o.data = .seq #[.int z.1 t, .int z.2.1 u, .int z.2.2 r] n
theorem IsTri.keeps {h h' : Heap} {v : Value} {z : Z3} (p : IsTri h v z) (k : ∀ b o, h.get? b = some o → o.cls = .type "tuple" → h'.get? b = some o) : IsTri h' v z := by
  obtain ⟨a, o, t, u, r, n, e, ho, hc, hd⟩ := p
  exact ⟨a, o, t, u, r, n, e, k a o ho hc, hc, hd⟩
theorem firsts3 {h : Heap} : ∀ {vs : List Value}, (∀ v ∈ vs, ∃ z, IsTri h v z) → ∃ fs : List Value, PySem.W.KatTups h vs fs ∧ fs.length = vs.length ∧ ∀ f ∈ fs, ∃ x t, f = Value.int x t
  | [], _ => ⟨[], PySem.W.KatTups.nil, rfl, fun _ hm => nomatch hm⟩
  | v :: vs, hp => by
    obtain ⟨fs, h1, h2, h3⟩ := firsts3 (vs := vs) fun v' hm => hp v' (List.mem_cons_of_mem _ hm)
    obtain ⟨z, a, o, t, u, r, n, rfl, ho, hc, hd⟩ := hp v List.mem_cons_self
    refine ⟨.int z.1 t :: fs, PySem.W.KatTups.cons ho hc hd rfl h1, by rw [List.length_cons, List.length_cons, h2], fun f hm => ?_⟩
    rcases List.mem_cons.mp hm with q | q
    · rw [q]; exact ⟨_, t, rfl⟩
    · exact h3 f q
theorem tri_cmp {vs : List Value} {k : Value → Z3} (hp : ∀ v ∈ vs, IsTri s.heap v (k v)) : Cmp prog w A s (tuples' true) (fun p => p.1 ∈ vs) (lt2 fun v u => lex3 (k v) (k u)) := by
  intro p q hm hm'
  have h1 := hp _ hm
  have h2 := hp _ hm'
  show wpAny (model prog w) A (keyLt' (tuples' true) p.1 q.1) (fun r s' => s' = s ∧ r = lex3 (k p.1) (k q.1)) (fun _ _ => False) s
  generalize k p.1 = x at h1 ⊢
  generalize k q.1 = y at h2 ⊢
  obtain ⟨x1, x2, x3⟩ := x
  obtain ⟨y1, y2, y3⟩ := y
  obtain ⟨a, o, t, u, r, n, e, ho, hc, hd⟩ := h1
  obtain ⟨a', o', t', u', r', n', e', ho', hc', hd'⟩ := h2
  rw [e, e']
  refine PySem.W.kat_lt ho hd ho' hd' ?_
  show PySem.W.KatLex prog w A true (decide (3 < 3)) _ [(.int x1 t, .int y1 t'), (.int x2 u, .int y2 u'), (.int x3 r, .int y3 r')] 0 s
  refine PySem.W.kat_cons (SeqAt.EqAt.int_int x1 t y1 t' prog w _ _ ?_)
  refine PySem.W.kat_go (fun e1 => ?_) (fun e1 => ?_)
  · have ex : x1 = y1 := by simpa using e1
    subst ex
    refine PySem.W.kat_yes (PySem.W.kat_cons (SeqAt.EqAt.int_int x2 u y2 u' prog w _ _ ?_))
    refine PySem.W.kat_go (fun e2 => ?_) (fun e2 => ?_)
    · have ey : x2 = y2 := by simpa using e2
      subst ey
      refine PySem.W.kat_yes (PySem.W.kat_cons (SeqAt.EqAt.int_int x3 r y3 r' prog w _ _ ?_))
      refine PySem.W.kat_go (fun e3 => ?_) (fun e3 => ?_)
      · have ez : x3 = y3 := by simpa using e3
        subst ez
        refine PySem.W.kat_yes (PySem.W.kat_nil ⟨rfl, ?_⟩)
        simp [lex3]
      · refine PySem.W.kat_no (PySem.W.kat_one _ _ (PyProof.Rows.lt_int ⟨rfl, ?_⟩))
        simp [lex3]
    · have ey : ¬ x2 = y2 := by simpa using e2
      refine PySem.W.kat_no (PySem.W.kat_one _ _ (PyProof.Rows.lt_int ⟨rfl, ?_⟩))
      simp [lex3, ey]
  · have ex : ¬ x1 = y1 := by simpa using e1
    refine PySem.W.kat_no (oneLt_int ⟨rfl, ?_⟩)
    simp [lex3, ex]
theorem tris_sortable {a : Addr} {vs : List Value} {k : Value → Z3} (h0 : 0 < vs.length) (hp : ∀ v ∈ vs, IsTri s.heap v (k v)) (ha : ∀ o, s.heap.get? a = some o → o.cls ≠ .type "tuple") : SortableO prog w A s a vs fun v u => lex3 (k v) (k u) := by
  intro h' keep
  have hp' : ∀ v ∈ vs, IsTri h' v (k v) := fun v hm => (hp v hm).keeps fun b o e c => keep b o (fun z => by subst z; exact ha o e c) e
  obtain ⟨fs, h1, h2, h3⟩ := firsts3 fun v hm => ⟨_, hp' v hm⟩
  refine ⟨tuples' true, fun Q E hq => ?_, tri_cmp hp'⟩
  refine PySem.W.kat_kind (T := .type "int") h1 (by omega) (fun f hm => ?_) (by rfl) ?_
  · obtain ⟨x, t, rfl⟩ := h3 f hm
    exact PySem.W.Looks.now
  · have e : (Value.type "int" != Value.type "tuple") = true := by first | decide +kernel | rfl | decide
    rw [e]
    exact hq
end
end Hl
namespace Hl
open PySem PySem.Spec PyProof.Rows L2 Evl
abbrev ltT (k : V → Z3) (x y : V) : Bool := lex3 (k x) (k y)
def rSorted3 (K : PySem.W.Frag) : List V → Hp → VK → Prop := fun vs H Q => ∃ (a : Addr) (xs : List V) (k : V → Z3), vs = [V.ref a] ∧ SqL K H a xs ∧ (∀ x ∈ xs, ∃ t, x = V.ref t ∧ H t = some (.tup [.int (k x).1, .int (k x).2.1, .int (k x).2.2])) ∧
  ∀ ys p, SrtO.Srtd (ltT k) ys → SrtO.Stb (ltT k) ys xs → H p = none → Q (.ref p) (upd H p (.lst ys))
theorem cr_sorted3 {X : Cx} : CallR X (.builtin "sorted") (rSorted3 X.K) := by
  intro pins s σ H vs us Q I r h
  obtain ⟨a, xs, k, rfl, hs, hx, q⟩ := h
  obtain ⟨its, rv, hl, hz⟩ := I.list hs
  obtain ⟨u, rfl, ru⟩ := vals1 r
  obtain rfl : u = Value.ref a := ru
  obtain ⟨e1, e2⟩ := refs_back rv fun x m => by
    obtain ⟨t, e, _⟩ := hx x m
    exact ⟨t, e⟩
  have hp : ∀ v ∈ its, IsTri s.heap v (k (backV v)) := fun v hv => by
    obtain ⟨t, rfl⟩ := e2 v hv
    have hm : V.ref t ∈ xs := by rw [e1]; exact List.mem_map.mpr ⟨_, hv, rfl⟩
    obtain ⟨t', e, ht⟩ := hx _ hm
    cases e
    obtain ⟨_, its2, r2, o, ho, hc, n, hd⟩ := I.hok _ _ ht
    cases r2 with
    | cons r1 r2 =>
      cases r2 with
      | cons r3 r2 =>
        obtain ⟨u3, rfl, r4⟩ := vals1 r2
        obtain ⟨t1, rfl⟩ := r1
        obtain ⟨t2, rfl⟩ := r3
        obtain ⟨t3, rfl⟩ := r4
        exact ⟨t, o, t1, t2, t3, n, rfl, ho, hc, hd⟩
  have hlen : its.length ≤ sizeLine := by rw [← rv.length]; exact hz
  refine SrtO.sorted_ord (swo3 fun u => k (backV u)) hl.isList hlen (fun h2 h₁ a' ha kk => ?_) fun out hs hb => ?_
  · refine tris_sortable (s := { s with heap := h₁ }) (by omega) (fun v hm => (hp v hm).keeps fun b o e _ => (kk b o e).2) fun o e => ?_
    have e' : some o = some (seqObj "list" its.toArray 0) := e.symm.trans ha
    cases e'
    intro c
    exact absurd (Value.type.inj c) (by decide)
  · have h3 : ∀ u ∈ out, ∃ a, u = Value.ref a := fun u hu => e2 u (hb.perm.mem_iff.mp hu)
    have hb2 : SrtO.Stb (ltT k) (out.map backV) xs := by
      rw [e1]
      exact SrtO.Stb.map (swo3 k) backV hb
    obtain ⟨n, hn⟩ := PyProof.Rows.sortedAll_at s.heap its out.toArray
    refine ⟨.ref (s.heap.objs.size + 1), upd H (s.heap.objs.size + 1) (.lst (out.map backV)), I.laid (t' := s.toks) (fun b o e => PyProof.Rows.sortedAll_old e) (Nat.le_succ _) ⟨?_, out, n, vals_back h3, hn⟩, rfl, q _ _ (SrtO.srtd_map hs) hb2 (I.hok.fresh (Nat.le_succ _))⟩
    rw [hb2.len]
    exact hz
end Hl
end PRl10

section PHl22
set_option Elab.async false
set_option linter.all false
set_option maxRecDepth 100000
set_option maxHeartbeats 2000000
local macro_rules | `(tactic| walk_at "ev") => `(tactic| (first
  | exact Evl.ev_c
  | exact Evl.ev_var rfl
  | (apply Hl.ev_I0 <;> walk_at "ev")
  | (apply Hl.ev_I <;> walk_at "ev")
  | (apply Hl.ev_ixT <;> walk_at "ev")
  | (apply Hl.ev_ixL <;> walk_at "ev")
  | exact Evl.ea_nil
  | (apply Evl.ea_cons <;> walk_at "ev")
  | (apply Hl.ev_callV <;> first | assumption | walk_at "ev")
  | (apply Hl.ev_eq <;> walk_at "ev")
  | (apply Hl.ev_ne <;> walk_at "ev")
  | (apply Hl.ev_fld <;> first | assumption | walk_at "ev")
  | (apply Hl.ev_lenL <;> first | assumption | walk_at "ev")
  | (apply Hl.ev_chain <;> first | (refine fun (_ : _ = _) => ?_; walk_at "ev") | walk_at "ev")
  | (apply Evl.ev_orV <;> first | (refine fun (_ : _ = _) => ?_; walk_at "ev") | walk_at "ev")
  | (apply Evl.ev_andV <;> first | (refine fun (_ : _ = _) => ?_; walk_at "ev") | walk_at "ev")
  | (apply Evl.ev_notV <;> walk_at "ev")
  | (apply Evl.et_test <;> walk_at "ev")
  | (apply Evl.et_B <;> walk_at "ev")
  | (apply Evl.et_not <;> walk_at "ev")
  | (apply Evl.et_and <;> first | (refine fun (_ : _ = _) => ?_; walk_at "ev") | walk_at "ev")
  | (apply Evl.et_or <;> first | (refine fun (_ : _ = _) => ?_; walk_at "ev") | walk_at "ev")
  | assumption
  | (exact Evl.st_of (by assumption))
  | exact rfl
  | skip))

namespace Hl
open PySem PySem.Spec PyProof.Rows L2 Evl
open GlaPlan (Pt Plan)
open GlaLead (LeadShop)
/-! ### sorted, plainly -/
theorem lex3_conn {x y : Z3} (h1 : lex3 x y = false) (h2 : lex3 y x = false) : x = y := by
  obtain ⟨a, b, c⟩ := x
  obtain ⟨d, e, f⟩ := y
  have p := lex3_no.1 h1
  have q := lex3_no.1 h2
  simp only at p q
  have : a = d := by omega
  have : b = e := by omega
  have : c = f := by omega
  simp [*]
theorem srt_uniq : ∀ {l m : List Z3}, l.Pairwise (fun x y => lex3 y x = false) → m.Pairwise (fun x y => lex3 y x = false) → l.Perm m → l = m
  | [], m, _, _, h => (List.Perm.eq_nil h.symm).symm
  | x :: l, [], _, _, h => absurd h.length_eq (by simp)
  | x :: l, y :: m, hl, hm, h => by
    have h1 : lex3 x y = false := by
      rcases List.mem_cons.mp (h.mem_iff.mp (List.mem_cons_self (a := x) (l := l))) with e | hx
      · rw [e]; exact (swo3 id).refl y
      · exact (List.pairwise_cons.1 hm).1 x hx
    have h2 : lex3 y x = false := by
      rcases List.mem_cons.mp (h.mem_iff.mpr (List.mem_cons_self (a := y) (l := m))) with e | hy
      · rw [e]; exact (swo3 id).refl x
      · exact (List.pairwise_cons.1 hl).1 y hy
    obtain rfl := lex3_conn h1 h2
    rw [srt_uniq (List.pairwise_cons.1 hl).2 (List.pairwise_cons.1 hm).2 h.cons_inv]
def sort3 (zs : List Z3) : List Z3 := zs.mergeSort fun x y => !lex3 y x
theorem sort3_perm (zs : List Z3) : (sort3 zs).Perm zs := List.mergeSort_perm _ _
theorem sort3_srt (zs : List Z3) : (sort3 zs).Pairwise fun x y => lex3 y x = false := by
  have := List.pairwise_mergeSort (le := fun x y : Z3 => !lex3 y x) (fun a b c h1 h2 => by
    have p : lex3 b a = false := by simpa using h1
    have q : lex3 c b = false := by simpa using h2
    simpa using (swo3 id).tr a b c p q) (fun a b => by
    cases h : lex3 b a with
    | false => rfl
    | true => have := (swo3 id).asym b a h; simp [id] at this; simp [this]) zs
  exact this.imp fun h => by simpa using h
/-! ### pairs through a point -/
def keyOf (S : Plan) (v i j : Nat) : Int := (((GlaLead.bendOf S v i j).1 : Int) * 2 ^ 82) / (GlaLead.bendOf S v i j).2
def trip (s : LeadShop) (S : Plan) (v : Nat) (j i : Nat) : Option Z3 := if GlaLead.through s S v i j = true then some (keyOf S v i j, (i : Int), (j : Int)) else none
def pairsUp (s : LeadShop) (S : Plan) (v : Nat) : List Nat → List Nat → List Z3
  | _, [] => []
  | pre, j :: r => pre.filterMap (trip s S v j) ++ pairsUp s S v (pre ++ [j]) r
theorem pairsUp_snoc (s : LeadShop) (S : Plan) (v : Nat) : ∀ (r pre : List Nat) (j : Nat), pairsUp s S v pre (r ++ [j]) = pairsUp s S v pre r ++ (pre ++ r).filterMap (trip s S v j)
  | [], pre, j => by simp [pairsUp]
  | a :: r, pre, j => by
    rw [List.cons_append, pairsUp, pairsUp_snoc s S v r (pre ++ [a]) j, pairsUp, List.append_assoc, List.append_assoc]; rfl
theorem pairsUp_len (s : LeadShop) (S : Plan) (v : Nat) : ∀ (r pre : List Nat), (pairsUp s S v pre r).length ≤ r.length * (pre.length + r.length)
  | [], pre => by simp [pairsUp]
  | a :: r, pre => by
    rw [pairsUp, List.length_append]
    have h1 := List.length_filterMap_le (trip s S v a) pre
    have h2 := pairsUp_len s S v r (pre ++ [a])
    rw [List.length_append, List.length_singleton] at h2
    have e1 : pre.length + 1 + r.length = pre.length + (r.length + 1) := by omega
    rw [e1] at h2
    rw [List.length_cons, Nat.succ_mul]
    omega
def is3 (z : Z3) (v : V) (H : Hp) : Prop := ∃ t, v = .ref t ∧ H t = some (.tup [.int z.1, .int z.2.1, .int z.2.2])
theorem mono3 : MonoR is3 := fun _ _ _ _ e h => h.imp fun t q => ⟨q.1, e _ _ q.2⟩
theorem stab3 : StabL is3 := fun _ _ _ _ _ _ h q => q.imp fun t z => ⟨z.1, by
  rw [upd_ne (by rintro rfl; rw [h] at z; cases z.2)]; exact z.2⟩
def pairOf (z : Z3) : Nat × Nat := (z.2.1.toNat, z.2.2.toNat)
def joinRow (s : LeadShop) (S : Plan) (v : Nat) (ls : List Nat) : List (Nat × Nat) := (sort3 (pairsUp s S v [] ls)).map pairOf
section
variable {K : PySem.W.Frag} {σ : L2.St} {H : Hp} {te : TE} {D : Ends} {tu tz : TS}
theorem Its.stab {α : Type} {R : α → V → Hp → Prop} (sR : StabL R) {xs : List α} {us : List V} {D : Addr} {l l' : List V} (hD : H D = some (.lst l)) (h : Its R xs us H) : Its R xs us (upd H D (.lst l')) := ⟨h.1, fun i x hx => (h.2 i x hx).imp fun v q => ⟨q.1, sR _ _ _ _ _ _ hD q.2⟩⟩
theorem s_forEnL {xs : List V} {j1 j2 : Nat} (h : EvL te σ H xs) (k : ∀ a H1, H a = none → Ex H H1 → H1 a = some (.lst xs) → ∃ Pv : Nat → L2.St → Hp → Prop, Pv 0 σ H1 ∧ (∀ i σ' H', Pv i σ' H' → SqL K H' a xs) ∧
    (∀ i x σ' H' H'', xs[i]? = some x → Pv i σ' H' → Ex H' H'' → tu { D with nx := Pv (i + 1), ct := Pv (i + 1), bk := D.nx } ((σ'.set j1 (some (.int (i : Nat)))).set j2 (some x)) H'') ∧ ∀ σ' H', Pv xs.length σ' H' → D.nx σ' H') :
    tFor (iEnum K (tCons te tNil)) (gTup K 2 (gCons (gName j1) (gCons (gName j2) gNil))) tu D σ H :=
  h H (Ex.refl H) _ fun a H1 ha e1 h1 => by
    obtain ⟨Pv, h0, hl, hs, hd⟩ := k a H1 ha e1 h1
    exact ⟨a, xs, rfl, sq_of h1, for_it walk_enum Pv h0 (fun i σ' H' _ p => hl i σ' H' p) (fun i y σ' H2 H3 hi p hy => by
      obtain ⟨T, x, z, rfl, hT, rfl, hx, hz⟩ := hy
      obtain rfl := Option.some.inj hx
      exact g_pair upd_same (hs i z σ' H2 _ hz p (Ex.new hT))) (fun σ' H' p => hd σ' H' p)⟩
theorem ev_abs {ta : TE} {i : Int} (h : Ev ta σ H (.int i)) : Ev (tCB (fun xs H Q => ∃ i, xs = [.int i] ∧ Q (.int (if i < 0 then -i else i)) H) (tCons ta tNil)) σ H (.int (i.natAbs : Int)) := fun H1 e Q q =>
  h H1 e _ fun H2 e2 => ⟨i, rfl, by
    have : (if i < 0 then -i else i) = (i.natAbs : Int) := by split <;> omega
    rw [this]; exact q H2 e2⟩
end
theorem mul_lt64 {x y : Int} (hx : x.natAbs < 4294967296) (hy : y.natAbs < 4294967296) : (x * y).natAbs < 18446744073709551616 := by
  rw [Int.natAbs_mul]
  exact Nat.mul_lt_mul'' hx hy
end Hl
end PHl22

section PHl23
set_option Elab.async false
set_option linter.all false
set_option maxRecDepth 100000
set_option maxHeartbeats 4000000
local macro_rules | `(tactic| walk_at "ev") => `(tactic| (first
  | exact Evl.ev_c
  | exact Evl.ev_var rfl
  | (apply Hl.ev_I0 <;> walk_at "ev")
  | (apply Hl.ev_I <;> walk_at "ev")
  | (apply Hl.ev_ixT <;> walk_at "ev")
  | (apply Hl.ev_ixL <;> walk_at "ev")
  | exact Evl.ea_nil
  | (apply Evl.ea_cons <;> walk_at "ev")
  | (apply Hl.ev_callV <;> first | assumption | walk_at "ev")
  | (apply Hl.ev_eq <;> walk_at "ev")
  | (apply Hl.ev_ne <;> walk_at "ev")
  | (apply Hl.ev_fld <;> first | assumption | walk_at "ev")
  | (apply Hl.ev_lenL <;> first | assumption | walk_at "ev")
  | (apply Hl.ev_chain <;> first | (refine fun (_ : _ = _) => ?_; walk_at "ev") | walk_at "ev")
  | (apply Evl.ev_orV <;> first | (refine fun (_ : _ = _) => ?_; walk_at "ev") | walk_at "ev")
  | (apply Evl.ev_andV <;> first | (refine fun (_ : _ = _) => ?_; walk_at "ev") | walk_at "ev")
  | (apply Evl.ev_notV <;> walk_at "ev")
  | (apply Evl.et_test <;> walk_at "ev")
  | (apply Evl.et_B <;> walk_at "ev")
  | (apply Evl.et_not <;> walk_at "ev")
  | (apply Evl.et_and <;> first | (refine fun (_ : _ = _) => ?_; walk_at "ev") | walk_at "ev")
  | (apply Evl.et_or <;> first | (refine fun (_ : _ = _) => ?_; walk_at "ev") | walk_at "ev")
  | assumption
  | (exact Evl.st_of (by assumption))
  | exact rfl
  | skip))

namespace Hl
open PySem PySem.Spec PyProof.Rows L2 Evl
open GlaPlan (Pt Plan)
open GlaLead (LeadShop)
section
variable {P : Program} {w : World} {K : PySem.W.Frag} {mg : Str → Option Value} {base : Heap} {C : Addr}
def Apt (K : PySem.W.Frag) (C : Addr) : List V → Hp → (V → Hp → Prop) → Prop := fun vs H R => ∃ (x y : V) (S : Plan) (s : LeadShop) (v : Nat) (ls : List Nat), vs = [x, .int (v : Int), y, .int (s.a : Int), .int (s.b : Int)] ∧ isDr K C S x H ∧ isL K isI ls y H ∧ GN S ∧ v < S.pts.length ∧ (∀ i ∈ ls, i < S.lines.length) ∧ (s.a ≤ 1000 ∧ s.b ≤ 1000) ∧ ls.length ≤ 300 ∧
  R = isL K (isPr K) (joinRow s S v ls)
theorem Apt.mono : Mono (Apt K C) := fun vs H H' v e ⟨x, y, S, s, v, ls, h, h1, h2, h3⟩ => ⟨x, y, S, s, v, ls, h, h1.mono e, h2.mono monoI e, h3⟩
theorem other_lt {S : Plan} (gl : GL S) {i v : Nat} (hi : i < S.lines.length) : GlaLead.other S i v < S.pts.length := by
  have := gl _ (List.mem_of_getElem? (lineOf_get hi))
  rw [GlaLead.other]
  split
  · exact this.2
  · exact this.1
theorem turn_lt {p q r : Pt} (hp : p.x < 4294967296 ∧ p.y < 4294967296) (hq : q.x < 4294967296 ∧ q.y < 4294967296) (hr : r.x < 4294967296 ∧ r.y < 4294967296) : (GlaPlan.turn p q r).natAbs < 2 ^ 65 := by
  have h1 := mul_lt64 (x := GlaPlan.dx p q) (y := GlaPlan.dy q r) (by rw [GlaPlan.dx]; omega) (by rw [GlaPlan.dy]; omega)
  have h2 := mul_lt64 (x := GlaPlan.dy p q) (y := GlaPlan.dx q r) (by rw [GlaPlan.dy]; omega) (by rw [GlaPlan.dx]; omega)
  rw [GlaPlan.turn]
  generalize GlaPlan.dx p q * GlaPlan.dy q r = u at *
  generalize GlaPlan.dy p q * GlaPlan.dx q r = v at *
  omega
theorem goes_lt {p q r : Pt} (hp : p.x < 4294967296 ∧ p.y < 4294967296) (hq : q.x < 4294967296 ∧ q.y < 4294967296) (hr : r.x < 4294967296 ∧ r.y < 4294967296) : (GlaPlan.goesOn p q r).natAbs < 2 ^ 65 := by
  have h1 := mul_lt64 (x := GlaPlan.dx p q) (y := GlaPlan.dx q r) (by rw [GlaPlan.dx]; omega) (by rw [GlaPlan.dx]; omega)
  have h2 := mul_lt64 (x := GlaPlan.dy p q) (y := GlaPlan.dy q r) (by rw [GlaPlan.dy]; omega) (by rw [GlaPlan.dy]; omega)
  rw [GlaPlan.goesOn]
  generalize GlaPlan.dx p q * GlaPlan.dx q r = u at *
  generalize GlaPlan.dy p q * GlaPlan.dy q r = v at *
  omega
theorem pairsUp_nn (s : LeadShop) (S : Plan) (v : Nat) : ∀ (r pre : List Nat) (z : Z3), z ∈ pairsUp s S v pre r → ∃ n1 n2 : Nat, z.2.1 = (n1 : Int) ∧ z.2.2 = (n2 : Int)
  | [], pre, z, h => nomatch h
  | j :: r, pre, z, h => by
    rw [pairsUp] at h
    rcases List.mem_append.1 h with q | q
    · obtain ⟨i, _, hi⟩ := List.mem_filterMap.1 q
      rw [trip] at hi
      split at hi
      · obtain rfl := Option.some.inj hi; exact ⟨i, j, rfl, rfl⟩
      · cases hi
    · exact pairsUp_nn s S v r _ z q
def kV3 (H : Hp) : V → Z3
  | .ref t => match H t with
    | some (.tup [.int a, .int b, .int c]) => (a, b, c)
    | _ => (0, 0, 0)
  | _ => (0, 0, 0)
theorem kV3_at {H : Hp} {t : Addr} {z : Z3} (h : H t = some (.tup [.int z.1, .int z.2.1, .int z.2.2])) : kV3 H (.ref t) = z := by
  show (match H t with | some (.tup [.int a, .int b, .int c]) => (a, b, c) | _ => (0, 0, 0)) = z
  rw [h]
theorem its3_refs {zs : List Z3} {us : List V} {H : Hp} (h : Its is3 zs us H) : ∀ x ∈ us, ∃ t, x = V.ref t ∧ H t = some (.tup [.int (kV3 H x).1, .int (kV3 H x).2.1, .int (kV3 H x).2.2]) := by
  intro x hx
  obtain ⟨i, hi⟩ := List.mem_iff_getElem?.1 hx
  obtain ⟨z, hz, t, rfl, ht⟩ := h.get hi
  refine ⟨t, rfl, ?_⟩
  rw [kV3_at ht]; exact ht
theorem its3_map {zs : List Z3} {us : List V} {H : Hp} (h : Its is3 zs us H) : us.map (kV3 H) = zs := by
  apply List.ext_getElem?
  intro i
  rw [List.getElem?_map]
  cases e : zs[i]? with
  | none =>
    rw [List.getElem?_eq_none_iff] at e
    rw [List.getElem?_eq_none (by rw [h.1]; exact e)]; rfl
  | some z =>
    obtain ⟨v, h1, t, rfl, ht⟩ := h.2 i z e
    rw [h1, Option.map_some, kV3_at ht]
abbrev s_pairs_through : Stmt := topS 30
abbrev N_pairs_through : List Str := ["drawing", "point", "leads", "a", "b", "v", "ends", "pairs", "k", "second", "i", "first", "t", "o", "lead", "bend"]
theorem sc_pairs_through : FnScope N_pairs_through ["drawing", "point", "leads", "a", "b"] (defScope s_pairs_through) := ⟨rfl, rfl, rfl, by decide +kernel, rfl, by decide +kernel, by decide +kernel⟩
theorem k_pairs_through (T : Txt K mg) (D : DrC K C) (F : Dfn K mg "pairs_through" s_pairs_through ["drawing", "point", "leads", "a", "b"]) (c_other_end : Cal P w K mg base 1 "other_end" (spV (Apn K fun l p => .int (otherOf l p : Nat))))
    (c_turn : Cal P w K mg base 1 "turn" (spV (A3 K fun p q r => .int (GlaPlan.turn p q r)))) (c_onward : Cal P w K mg base 1 "onward" (spV (A3 K fun p q r => .int (GlaPlan.goesOn p q r)))) : Cal P w K mg base 2 "pairs_through" (spR (Apt K C)) := by
  refine mk_R F sc_pairs_through (fun vs H v h => by obtain ⟨_, _, _, _, _, _, rfl, _⟩ := h; rfl) (fun f cdv A' outer s0 H vs E v0 hr a => ?_)
  obtain ⟨x, y, S, s, v, ls, rfl, id, ⟨la, lus, rfl, hla, ila⟩, gn, hv, hls, ⟨hsa, hsb⟩, hlen, rfl⟩ := a
  obtain rfl := its_isI ila
  obtain ⟨a, dx, fs, vp, vl, vm, rfl, h2, f1, f2, f3, f4, f5, ⟨lp, us, rfl, hp, ip⟩, ⟨ll, ul, rfl, hl, il⟩, im⟩ := id
  have cl := D.cl
  have n3 := D.n3
  have n4 := D.n4
  have m1 : Mono (A3 K fun p q r => .int (GlaPlan.turn p q r)) := A3.mono
  have m2 : Mono (A3 K fun p q r => .int (GlaPlan.goesOn p q r)) := A3.mono
  have m3 : Mono (Apn K fun l p => .int (otherOf l p : Nat)) := Apn.mono
  obtain ⟨u0, g0, i0⟩ := ip.pt hv
  refine ⟨_, (pss_cons (ps_set (i := 5) sc_pairs_through.nd rfl (Or.inl rfl) (pe_ix ix_list (pe_fld (pv 0) rfl) (pv 1) (fun _ _ => rfl)))
      (pss_cons (ps_setLc (i := 6) (own := [("lead", 14)]) (by rfl) sc_pairs_through.nd rfl rfl (sw_true rfl rfl rfl (by decide +kernel)) (pi_list (pv 2)) (blkOk_by (own := [("lead", 14)]) (N := N_pairs_through) (sc := defScope s_pairs_through) (by decide +kernel)) (fun _ _ _ _ _ => (pg_name (i := 14) sc_pairs_through.nd rfl (Or.inl rfl))) (fun _ _ _ _ _ => pts_nil) (fun _ _ _ _ _ => (pe_ix (ix_listK (K := K) rfl) (pe_fldK (K := K) rfl (pv 0) rfl) (pe_c c_other_end hr (by decide) (by rfl) (pa_cons (pe_ix (ix_listK (K := K) rfl) (pe_fldK (K := K) rfl (pv 0) rfl) (pv 14) (fun _ _ => rfl)) (pa_cons (pv 1) pa_nil))) (fun _ _ => rfl))))
      (pss_cons (ps_set (i := 7) sc_pairs_through.nd rfl (Or.inl rfl) (pe_lst pa_nil))
      (pss_cons (ps_for PassesOwn.never rfl (pi_enum (by rfl) T.enumerate (pa_cons (pv 2) pa_nil)) (pg_tup (by rfl) (pgs_cons (pg_name (i := 8) sc_pairs_through.nd rfl (Or.inl rfl)) (pgs_cons (pg_name (i := 9) sc_pairs_through.nd rfl (Or.inl rfl)) pgs_nil)))
        (pss_one (ps_for PassesOwn.never rfl (pi_enum (by rfl) T.enumerate (pa_cons (pe_slice sl_list (pv 2) po_none (po_some (pv 8))) pa_nil)) (pg_tup (by rfl) (pgs_cons (pg_name (i := 10) sc_pairs_through.nd rfl (Or.inl rfl)) (pgs_cons (pg_name (i := 11) sc_pairs_through.nd rfl (Or.inl rfl)) pgs_nil)))
        (pss_cons (ps_set (i := 12) sc_pairs_through.nd rfl (Or.inl rfl) (pe_callB call_abs (by rfl) T.abs (by decide +kernel) (pa_cons (pe_c c_turn hr (by decide) (by rfl) (pa_cons (pe_ix ix_list (pv 6) (pv 10) (fun _ _ => rfl)) (pa_cons (pv 5) (pa_cons (pe_ix ix_list (pv 6) (pv 8) (fun _ _ => rfl)) pa_nil)))) pa_nil)))
      (pss_cons (ps_set (i := 13) sc_pairs_through.nd rfl (Or.inl rfl) (pe_c c_onward hr (by decide) (by rfl) (pa_cons (pe_ix ix_list (pv 6) (pv 10) (fun _ _ => rfl)) (pa_cons (pv 5) (pa_cons (pe_ix ix_list (pv 6) (pv 8) (fun _ _ => rfl)) pa_nil)))))
      (pss_one (ps_if (PW.pt (pw_and (pt_cmpR op_gt (pv 13) pe_int (nomark _)) (pw_and1 (pt_cmpR op_le (pe_op op_mul (pv 12) (pv 4)) (pe_op op_mul (pv 13) (pv 3)) (nomark _))))) (pss_one (ps_expr (pe_bm PySem.F.plainAttrs_list PySem.F.slot_list_append PySem.F.type_list_append mt_append (pv 7) (pa_cons (pe_tup (pa_cons (pe_op op_fdivW (pe_op op_shlW (pv 12) (pe_gc (by rfl) T.g_BEND_BITS)) (pv 13)) (pa_cons (pv 11) (pa_cons (pv 9) pa_nil)))) pa_nil)))) pss_nil)))))))
      (pss_one (ps_ret (pe_lc (own := [("bend", 15), ("first", 11), ("second", 9)]) (by rfl) sc_pairs_through.nd (pi_list (pe_callB cr_sorted3 (by rfl) T.sorted (by decide +kernel) (pa_cons (pv 7) pa_nil))) (blkOk_by (own := [("bend", 15), ("first", 11), ("second", 9)]) (N := N_pairs_through) (sc := defScope s_pairs_through) (by decide +kernel)) (fun _ _ _ _ _ => (pg_tupK (K := K) (n := 3) rfl (by rfl) (pgs_cons (pg_name (i := 15) sc_pairs_through.nd rfl (Or.inl rfl)) (pgs_cons (pg_name (i := 11) sc_pairs_through.nd rfl (Or.inl rfl)) (pgs_cons (pg_name (i := 9) sc_pairs_through.nd rfl (Or.inl rfl)) pgs_nil))))) (fun _ _ _ _ _ => pts_nil) (fun _ _ _ _ _ => (pe_tup (pa_cons (pv 11) (pa_cons (pv 9) pa_nil))))))))))), fun Q kq => ?_⟩
  apply q_asg
  · walk_at "ev"
  · intro H1 e1
    have h21 := e1 _ _ h2
    have hla1 := ex_l e1 hla
    -- the other ends
    apply q_asgL (xs := given (ls.map fun (n : Nat) => V.int (n : Int)).length (fun _ => true) (fun j => (us[GlaLead.other S (ls.getD j 0) v]?).getD .non))
    · refine el_lcL (a := la) (xs := ls.map fun (n : Nat) => V.int (n : Int)) _ _ (ev_var rfl) hla1 (by rw [List.length_map]; omega) (fun _ => rfl) (fun _ _ _ _ _ => fun H3 e3 Q q => q H3 (Ex.refl H3)) ?_
      intro j xv H2 e2 hj _
      rw [List.getElem?_map] at hj
      obtain ⟨n, hn, rfl⟩ := Option.map_eq_some_iff.1 hj
      have hnl := hls n (List.mem_of_getElem? hn)
      have hline := lineOf_get hnl
      obtain ⟨lv, hlv, il2⟩ := il.2 n _ hline
      have hlv' := atI_nat hlv
      have e02 := e1.trans e2
      have hol := other_lt gn.inp hnl (v := v)
      obtain ⟨u1, g1, i1⟩ := ip.2 _ _ (Geo.pt_get hol)
      have g1' := atI_nat g1
      have h22 := e02 _ _ h2
      have hp2 := ex_l e02 hp
      have hl2 := ex_l e02 hl
      have a1 : Apn K (fun l p => .int (otherOf l p : Nat)) [lv, .int (v : Int)] H2 (.int (GlaLead.other S n v : Nat)) := ⟨lv, _, v, rfl, il2.mono e02, rfl⟩
      refine ev_is (v := u1) ?_ (by simp [hn, g1])
      walk_at "ev"
    · intro el H2 hel e2 hel2
      have e02 := e1.trans e2
      have iend : ∀ (i n : Nat), ls[i]? = some n → ∃ u, atI (given (ls.map fun (n : Nat) => V.int (n : Int)).length (fun _ => true) (fun j => (us[GlaLead.other S (ls.getD j 0) v]?).getD .non)) (i : Int) = some u ∧ isPt K (S.pt (GlaLead.other S n v)) u H := by
        intro i n hn
        have hnl := hls n (List.mem_of_getElem? hn)
        obtain ⟨u1, g1, i1⟩ := ip.2 _ _ (Geo.pt_get (other_lt gn.inp hnl (v := v)))
        refine ⟨u1, atI_nat ?_, i1⟩
        have hi : i < ls.length := (List.getElem?_eq_some_iff.1 hn).1
        rw [given_all, List.getElem?_map, List.getElem?_range (by simpa using hi)]
        simp [hn, g1]
      generalize given (ls.map fun (n : Nat) => V.int (n : Int)).length (fun _ => true) (fun j => (us[GlaLead.other S (ls.getD j 0) v]?).getD .non) = eus at *
      apply q_asgL (xs := []) (el_lst ea_nil (by simp))
      intro pl H3 hpl3 e3 hpl33
      have nep : el ≠ pl := fun z => by rw [← z, hel2] at hpl3; cases hpl3
      have hHp : H2 pl = none := hpl3
      have hHp0 : H pl = none := fresh_back e02 hHp
      refine q_forEn (a := la) (xs := ls.map fun (n : Nat) => V.int (n : Int)) (ev_var rfl) (ex_l (e02.trans e3) hla) (fun k σ' H' => ∃ (zus : List V) (o8 o9 o10 o11 o12 o13 : Option V), Ex H2 H' ∧ H' pl = some (.lst zus) ∧ Its is3 (pairsUp s S v [] (ls.take k)) zus H' ∧
        σ' = [some (.ref a), some (.int (v : Int)), some (.ref la), some (.int (s.a : Int)), some (.int (s.b : Int)), some u0, some (.ref el), some (.ref pl), o8, o9, o10, o11, o12, o13, none, none]) ?_ ?_ ?_ ?_
      · intro H4 e4
        exact ⟨[], none, none, none, none, none, none, e3.trans e4, e4 _ _ hpl33, Its.nil, rfl⟩
      · rintro k σ' H' ⟨zus, o8, o9, o10, o11, o12, o13, q1, _⟩
        exact ex_l (e02.trans q1) hla
      · rintro k xv σ' H4a H4 hk ⟨zus, o8, o9, o10, o11, o12, o13, q1, q2, q3, rfl⟩ e4a
        rw [List.getElem?_map] at hk
        obtain ⟨sc, hsc, rfl⟩ := Option.map_eq_some_iff.1 hk
        replace q1 := q1.trans e4a
        replace q2 := e4a _ _ q2
        replace q3 := q3.mono mono3 e4a
        have hkl : k < ls.length := (List.getElem?_eq_some_iff.1 hsc).1
        have et : ls.take (k + 1) = ls.take k ++ [sc] := by rw [List.take_add_one, hsc]; rfl
        rw [et, pairsUp_snoc, List.nil_append]
        obtain ⟨uk, gk, ik⟩ := iend k sc hsc
        have e04 := e02.trans q1
        refine s_forEnL (xs := (ls.take k).map fun (n : Nat) => V.int (n : Int)) ?_ ?_
        · have c1 : (ls.take k).map (fun (n : Nat) => V.int (n : Int)) = cutV (ls.map fun (n : Nat) => V.int (n : Int)) none (some (k : Int)) := by rw [cut_to, List.map_take]
          rw [c1]
          exact el_sl (ev_var rfl) eo_none (eo_some (ev_var rfl)) (ex_l e04 hla)
        · intro sl H5 hsl5 e5 hsl55
          have nsp : sl ≠ pl := fun z => by rw [z, q2] at hsl5; cases hsl5
          have hx2 : Ex H2 (del H5 pl) := ex_del (q1.trans e5) hHp
          refine ⟨fun i σ' H' => ∃ (zus : List V) (o10 o11 o12 o13 : Option V), Ex (del H5 pl) H' ∧ H' pl = some (.lst zus) ∧ Its is3 (pairsUp s S v [] (ls.take k) ++ ((ls.take k).take i).filterMap (trip s S v sc)) zus H' ∧
            σ' = [some (.ref a), some (.int (v : Int)), some (.ref la), some (.int (s.a : Int)), some (.int (s.b : Int)), some u0, some (.ref el), some (.ref pl), some (.int (k : Nat)), some (.int (sc : Int)), o10, o11, o12, o13, none, none], ?_, ?_, ?_, ?_⟩
          · refine ⟨zus, o10, o11, o12, o13, del_ex, e5 _ _ q2, ?_, rfl⟩
            simpa using q3.mono mono3 e5
          · rintro i σ' H' ⟨_, _, _, _, _, d1, _⟩
            exact sq_of (d1 _ _ (by rw [del_ne nsp]; exact hsl55))
          · rintro i xv σ' H6a H6 hi ⟨zus, o10, o11, o12, o13, d1, d2, d3, rfl⟩ e6a
            rw [List.getElem?_map] at hi
            obtain ⟨fi, hfi, rfl⟩ := Option.map_eq_some_iff.1 hi
            replace d1 := d1.trans e6a
            replace d2 := e6a _ _ d2
            replace d3 := d3.mono mono3 e6a
            have hfi2 : ls[i]? = some fi := by
              rw [List.getElem?_take] at hfi
              split at hfi
              · exact hfi
              · cases hfi
            have et2 : (ls.take k).take (i + 1) = (ls.take k).take i ++ [fi] := by rw [List.take_add_one, hfi]; rfl
            dsimp only
            rw [et2, List.filterMap_append, ← List.append_assoc]
            obtain ⟨ui, gi, ii⟩ := iend i fi hfi2
            have e26 : Ex H2 H6 := hx2.trans d1
            have e06 : Ex H H6 := e02.trans e26
            have hel6 : SqL K H6 el eus := sq_of (e26 _ _ hel2)
            have hzl : zus.length ≤ 90000 + 300 := by
              rw [d3.1, List.length_append]
              have h1 := pairsUp_len s S v (ls.take k) []
              have h2 := List.length_filterMap_le (trip s S v sc) ((ls.take k).take i)
              have h3 : (ls.take k).length ≤ 300 := by rw [List.length_take]; omega
              have h4 : ((ls.take k).take i).length ≤ 300 := by rw [List.length_take]; omega
              have h5 : (ls.take k).length * (([] : List Nat).length + (ls.take k).length) ≤ 300 * 300 := Nat.mul_le_mul h3 (by simpa using h3)
              omega
            have a1 : A3 K (fun p q r => .int (GlaPlan.turn p q r)) [ui, u0, uk] H6 (.int (GlaPlan.turn (S.pt (GlaLead.other S fi v)) (S.pt v) (S.pt (GlaLead.other S sc v)))) := ⟨_, _, _, _, _, _, rfl, ii.mono e06, i0.mono e06, ik.mono e06, rfl⟩
            have a2 : A3 K (fun p q r => .int (GlaPlan.goesOn p q r)) [ui, u0, uk] H6 (.int (GlaPlan.goesOn (S.pt (GlaLead.other S fi v)) (S.pt v) (S.pt (GlaLead.other S sc v)))) := ⟨_, _, _, _, _, _, rfl, ii.mono e06, i0.mono e06, ik.mono e06, rfl⟩
            have bt : (GlaPlan.turn (S.pt (GlaLead.other S fi v)) (S.pt v) (S.pt (GlaLead.other S sc v))).natAbs < 2 ^ 65 := turn_lt ii.1 i0.1 ik.1
            have bo : (GlaPlan.goesOn (S.pt (GlaLead.other S fi v)) (S.pt v) (S.pt (GlaLead.other S sc v))).natAbs < 2 ^ 65 := goes_lt ii.1 i0.1 ik.1
            have hthr : GlaLead.through s S v fi sc = (decide (0 < GlaPlan.goesOn (S.pt (GlaLead.other S fi v)) (S.pt v) (S.pt (GlaLead.other S sc v))) && decide ((GlaPlan.turn (S.pt (GlaLead.other S fi v)) (S.pt v) (S.pt (GlaLead.other S sc v))).natAbs * s.b ≤ (GlaPlan.goesOn (S.pt (GlaLead.other S fi v)) (S.pt v) (S.pt (GlaLead.other S sc v))).toNat * s.a)) := rfl
            have hkey : keyOf S v fi sc = (((GlaPlan.turn (S.pt (GlaLead.other S fi v)) (S.pt v) (S.pt (GlaLead.other S sc v))).natAbs : Int) * 2 ^ 82) / GlaPlan.goesOn (S.pt (GlaLead.other S fi v)) (S.pt v) (S.pt (GlaLead.other S sc v)) := rfl
            have htrip : [fi].filterMap (trip s S v sc) = if GlaLead.through s S v fi sc = true then [(keyOf S v fi sc, (fi : Int), (sc : Int))] else [] := by
              rw [List.filterMap_cons, trip]
              split
              · rename_i h; split at h
                · cases h
                · rename_i h2; rw [if_neg h2]; rfl
              · rename_i z h; split at h
                · rename_i h2; rw [if_pos h2]; cases h; rfl
                · cases h
            rw [htrip, hkey]
            rw [hthr]
            generalize GlaPlan.turn (S.pt (GlaLead.other S fi v)) (S.pt v) (S.pt (GlaLead.other S sc v)) = tt at *
            generalize GlaPlan.goesOn (S.pt (GlaLead.other S fi v)) (S.pt v) (S.pt (GlaLead.other S sc v)) = oo at *
            apply q_asg (v := .int (tt.natAbs : Int))
            · refine ev_abs ?_
              walk_at "ev"
            · intro H7 e7
              replace a2 := m2 _ _ _ _ e7 a2
              have hel7 := ex_l e7 hel6
              apply q_asg
              · walk_at "ev"
              · intro H8 e8
                have e68 := e7.trans e8
                apply s_when (b := decide (0 < oo) && decide (tt.natAbs * s.b ≤ oo.toNat * s.a))
                · refine et_is (a := decide (oo > 0) && decide ((tt.natAbs : Int) * (s.b : Int) ≤ oo * (s.a : Int))) ?_ ?_
                  · walk_at "ev"
                    · exact .inr ⟨by omega, by omega⟩
                    · exact .inr ⟨by omega, by omega⟩
                  · by_cases ho : 0 < oo
                    · obtain ⟨n, rfl⟩ := Int.eq_ofNat_of_zero_le (Int.le_of_lt ho)
                      have e1 : decide ((tt.natAbs : Int) * (s.b : Int) ≤ (n : Int) * (s.a : Int)) = decide (tt.natAbs * s.b ≤ (n : Int).toNat * s.a) := by
                        rw [Int.toNat_natCast, ← Int.natCast_mul, ← Int.natCast_mul]
                        rw [Bool.eq_iff_iff, decide_eq_true_eq, decide_eq_true_eq]
                        exact Int.ofNat_le
                      rw [e1]
                    · rw [decide_eq_false ho]; rfl
                · intro hb H9 e9
                  rw [if_pos hb]
                  have ho : 0 < oo := by
                    rw [Bool.and_eq_true] at hb; exact of_decide_eq_true hb.1
                  have d2' := (e68.trans e9) _ _ d2
                  refine s_appU (l := pl) (xs := zus) (ys := [.int ((tt.natAbs : Int) * 2 ^ 82 / oo), .int (fi : Int), .int (sc : Int)]) d2' (ev_var rfl) ?_ (by omega) ?_
                  · refine eu_tup ?_ (by simp)
                    refine ea_cons (ev_I (g := fun i j => .int (i / j)) (ev_I (g := fun i j => .int (i * 2 ^ j.toNat)) (ev_var rfl) ev_c ?_) (ev_var rfl) ?_) (ea_cons (ev_var rfl) (ea_cons (ev_var rfl) ea_nil))
                    · refine ⟨by decide, ?_⟩
                      have : Builtin.Int.intBits (tt.natAbs : Int) ≤ 66 := by
                        unfold Builtin.Int.intBits
                        split
                        · omega
                        · rename_i hz
                          have h0 : (tt.natAbs : Int).natAbs = tt.natAbs := Int.natAbs_natCast _
                          rw [h0]
                          have hz' : tt.natAbs ≠ 0 := by
                            intro z; rw [z] at hz; simp at hz
                          have := (Nat.log2_lt hz').2 (Nat.lt_of_lt_of_le bt (by decide : 2 ^ 65 ≤ 2 ^ 65))
                          omega
                      omega
                    · refine ⟨ho, ?_⟩
                      have hz' : oo.natAbs ≠ 0 := by omega
                      have := (Nat.log2_lt hz').2 bo
                      omega
                  · intro t H10 ht10 e10 h10
                    have e610 := (e68.trans e9).trans e10
                    refine ⟨zus ++ [.ref t], _, _, _, _, Ex.mut (d1.trans e610) del_at, upd_same, ?_, rfl⟩
                    refine Its.stab stab3 (e610 _ _ d2) ((d3.mono mono3 e610).snoc ⟨t, rfl, h10⟩)
                · intro hb H9 e9
                  rw [if_neg (by rw [hb]; exact Bool.false_ne_true), List.append_nil]
                  have e69 := e68.trans e9
                  exact ⟨zus, _, _, _, _, d1.trans e69, e69 _ _ d2, d3.mono mono3 e69, rfl⟩
          · rintro σ' H6 ⟨zus, o10, o11, o12, o13, d1, d2, d3, rfl⟩
            refine ⟨zus, _, _, _, _, _, _, hx2.trans d1, d2, ?_, rfl⟩
            rw [List.length_map, List.take_length] at d3
            exact d3
      · rintro σ' H4 ⟨zus, o8, o9, o10, o11, o12, o13, q1, q2, q3, rfl⟩
        rw [List.length_map, List.take_length] at q3
        have e04 := e02.trans q1
        have hnn := fun z hz => pairsUp_nn s S v ls [] z hz
        generalize hzs : pairsUp s S v [] ls = zs at *
        have hjr : joinRow s S v ls = (sort3 zs).map pairOf := by rw [joinRow, hzs]
        rw [hjr] at kq
        have hzl : zs.length ≤ 90000 := by
          rw [← hzs]
          have h1 := pairsUp_len s S v ls []
          have h5 : ls.length * (([] : List Nat).length + ls.length) ≤ 300 * 300 := Nat.mul_le_mul hlen (by simpa using hlen)
          omega
        have hsl := (sort3_perm zs).length_eq
        apply s_retF
        · refine ef_lc (R := isPr K) monoPr stabPr zs.length (by omega) (fun i H' x H'' => H'' = H' ∧ ∃ t z, x = .ref t ∧ H' t = some (.tup [.int z.1, .int z.2.1, .int z.2.2]) ∧ (sort3 zs)[i]? = some z) (fun i => ((sort3 zs).take i).map pairOf) rfl (fun i _ => by simp; omega) ?_ ?_
          · intro H5 e5 Rr hR
            refine (ev_var (v := .ref pl) rfl : Ev (tVar 7) _ H4 _) H5 e5 _ fun H6 e6 => ?_
            have e46 := e5.trans e6
            have q36 := q3.mono mono3 e46
            refine ⟨pl, zus, kV3 H6, rfl, sq_of (e46 _ _ q2), its3_refs q36, fun ys p hs hb hp => ?_⟩
            have hk : ys.map (kV3 H6) = sort3 zs := by
              refine srt_uniq (List.pairwise_map.2 hs) (sort3_srt zs) ?_
              refine (hb.perm.map _).trans ?_
              rw [its3_map q36]
              exact (sort3_perm zs).symm
            have hyl : ys.length = zs.length := by rw [hb.len, q36.1]
            have e67 : Ex H6 (upd H6 p (.lst ys)) := Ex.new hp
            refine ⟨p, rfl, ⟨ys, sq_of upd_same⟩, hR (Itl K p) (fun H' => Ex (upd H6 p (.lst ys)) H') _ ?_ (e6.trans e67) fun H' e' => e'⟩
            have wk := walk_list (K := K) (a := p) (xs := ys)
            rw [hyl] at wk
            refine wk.mono (fun H' g => sq_of (g _ _ upd_same)) ?_
            rintro i H' x H'' hi g ⟨rfl, hx⟩
            have hxm : x ∈ zus := hb.perm.mem_iff.1 (List.mem_of_getElem? hx)
            obtain ⟨t, rfl, ht⟩ := its3_refs q36 x hxm
            refine ⟨rfl, t, kV3 H6 (.ref t), rfl, (e67.trans g) _ _ ht, ?_⟩
            rw [← hk, List.getElem?_map, hx]; rfl
          · rintro i x H5 H6 e5 hi ⟨rfl, t, z, rfl, ht, hz⟩ Q2 hQ
            obtain ⟨n1, n2, hn1, hn2⟩ := hnn z ((sort3_perm zs).mem_iff.1 (List.mem_of_getElem? hz))
            refine ⟨t, _, rfl, st_of ht, rfl, _, _, rfl, _, _, rfl, _, _, rfl, rfl, hQ _ H6 (Ex.refl _) rfl (.inl ⟨pairOf z, fun H7 e7 Q q => q H7 (Ex.refl H7), ?_, ?_⟩)⟩
            · have hp1 : pairOf z = (n1, n2) := by rw [pairOf, hn1, hn2]; rfl
              rw [hp1, hn1, hn2]
              refine (ef_u (eu_tup (ea_cons (ev_var rfl) (ea_cons (ev_var rfl) ea_nil)) (by simp))).r fun p H7 h7 => ⟨p, rfl, h7⟩
            · rw [List.take_add_one, hz, List.map_append]; rfl
        · rintro p H5 hp5 e5 ⟨us', h1, h2'⟩
          refine kq _ H5 (e04.trans e5) ⟨p, us', rfl, sq_of h1, ?_⟩
          rw [← hsl, List.take_length] at h2'
          exact h2'
end
end Hl
end PHl23

section PHl24
set_option Elab.async false
set_option linter.all false
set_option maxRecDepth 100000
set_option maxHeartbeats 4000000
local macro_rules | `(tactic| walk_at "ev") => `(tactic| (first
  | exact Evl.ev_c
  | exact Evl.ev_var rfl
  | (apply Hl.ev_I0 <;> walk_at "ev")
  | (apply Hl.ev_I <;> walk_at "ev")
  | (apply Hl.ev_ixT <;> walk_at "ev")
  | (apply Hl.ev_ixL <;> walk_at "ev")
  | exact Evl.ea_nil
  | (apply Evl.ea_cons <;> walk_at "ev")
  | (apply Hl.ev_callV <;> first | assumption | walk_at "ev")
  | (apply Hl.ev_eq <;> walk_at "ev")
  | (apply Hl.ev_ne <;> walk_at "ev")
  | (apply Hl.ev_fld <;> first | assumption | walk_at "ev")
  | (apply Hl.ev_lenL <;> first | assumption | walk_at "ev")
  | (apply Hl.ev_chain <;> first | (refine fun (_ : _ = _) => ?_; walk_at "ev") | walk_at "ev")
  | (apply Evl.ev_orV <;> first | (refine fun (_ : _ = _) => ?_; walk_at "ev") | walk_at "ev")
  | (apply Evl.ev_andV <;> first | (refine fun (_ : _ = _) => ?_; walk_at "ev") | walk_at "ev")
  | (apply Evl.ev_notV <;> walk_at "ev")
  | (apply Evl.et_test <;> walk_at "ev")
  | (apply Evl.et_B <;> walk_at "ev")
  | (apply Evl.et_not <;> walk_at "ev")
  | (apply Evl.et_and <;> first | (refine fun (_ : _ = _) => ?_; walk_at "ev") | walk_at "ev")
  | (apply Evl.et_or <;> first | (refine fun (_ : _ = _) => ?_; walk_at "ev") | walk_at "ev")
  | assumption
  | (exact Evl.st_of (by assumption))
  | exact rfl
  | skip))

namespace Hl
open PySem PySem.Spec PyProof.Rows L2 Evl
open GlaPlan (Pt Plan)
open GlaLead (LeadShop)
/-! ### joined at a point -/
def gstep (done : List (Nat × Nat)) (x : Nat × Nat) : List (Nat × Nat) := if done.any (fun (y : Nat × Nat) => y.1 == x.1 || (y.1 == x.2 || (y.2 == x.1 || y.2 == x.2))) = true then done else done ++ [x]
def greedy (l : List (Nat × Nat)) : List (Nat × Nat) := l.foldl gstep []
def partner (D : List (Nat × Nat)) (i : Nat) : Option Nat := D.findSome? fun (x : Nat × Nat) => if x.1 = i then some x.2 else if x.2 = i then some x.1 else none
theorem greedy_snoc (l : List (Nat × Nat)) (x : Nat × Nat) : greedy (l ++ [x]) = gstep (greedy l) x := by
  rw [greedy, List.foldl_append]; rfl
theorem partner_none {D : List (Nat × Nat)} {i : Nat} : partner D i = none ↔ ∀ y ∈ D, y.1 ≠ i ∧ y.2 ≠ i := by
  rw [partner, List.findSome?_eq_none_iff]
  constructor
  · intro h y hy
    have := h y hy
    split at this
    · cases this
    · rename_i h1
      split at this
      · cases this
      · rename_i h2; exact ⟨h1, h2⟩
  · intro h y hy
    obtain ⟨h1, h2⟩ := h y hy
    rw [if_neg h1, if_neg h2]
theorem partner_snoc (D : List (Nat × Nat)) (x : Nat × Nat) (i : Nat) : partner (D ++ [x]) i = match partner D i with
    | some y => some y
    | none => if x.1 = i then some x.2 else if x.2 = i then some x.1 else none := by
  rw [partner, List.findSome?_append]
  show (partner D i).or _ = _
  cases partner D i with
  | some y => rfl
  | none =>
    rw [Option.none_or, List.findSome?_cons, List.findSome?_nil]
    generalize (if x.1 = i then some x.2 else if x.2 = i then some x.1 else none) = e
    cases e <;> rfl
theorem gstep_any {D : List (Nat × Nat)} {x : Nat × Nat} : (D.any (fun (y : Nat × Nat) => y.1 == x.1 || (y.1 == x.2 || (y.2 == x.1 || y.2 == x.2))) = true) ↔ ¬ (partner D x.1 = none ∧ partner D x.2 = none) := by
  rw [partner_none, partner_none, List.any_eq_true]
  constructor
  · rintro ⟨y, hy, h⟩ ⟨h1, h2⟩
    have a := h1 y hy
    have b := h2 y hy
    simp only [Bool.or_eq_true, beq_iff_eq] at h
    omega
  · intro h
    refine Classical.byContradiction fun no => h ⟨fun y hy => ?_, fun y hy => ?_⟩
    · refine ⟨fun z => no ⟨y, hy, by simp [z]⟩, fun z => no ⟨y, hy, by simp [z]⟩⟩
    · refine ⟨fun z => no ⟨y, hy, by simp [z]⟩, fun z => no ⟨y, hy, by simp [z]⟩⟩
theorem greedy_sub : ∀ (l : List (Nat × Nat)) (D : List (Nat × Nat)), ∀ y ∈ l.foldl gstep D, y ∈ D ∨ y ∈ l
  | [], D, y, h => .inl h
  | x :: r, D, y, h => by
    rcases greedy_sub r (gstep D x) y h with q | q
    · rw [gstep] at q
      split at q
      · exact .inl q
      · rcases List.mem_append.1 q with z | z
        · exact .inl z
        · right; rw [List.mem_singleton.1 z]; exact List.mem_cons_self
    · exact .inr (List.mem_cons_of_mem _ q)
def onP (o : Option Nat) : Option V := o.map fun n => .int (n : Int)
def ownRow (s : LeadShop) (S : Plan) (v : Nat) : List (Nat × Nat) := if GlaLead.onFrame S (S.pt v) = true then [] else joinRow s S v (GlaLead.leadsAt S v)
def fJ (s : LeadShop) (S : Plan) (k : Nat) (q : Nat × Nat) : Option V := if q.2 < k then onP (partner (greedy (ownRow s S q.2)) q.1) else none
def endsList (S : Plan) : List (Nat × Nat) := (List.range S.lines.length).flatMap fun i => [(i, (GlaLead.lineOf S i).1), (i, (GlaLead.lineOf S i).2)]
theorem ends_len (S : Plan) : (endsList S).length = 2 * S.lines.length := by
  have : ∀ l : List Nat, (l.flatMap fun i => [(i, (GlaLead.lineOf S i).1), (i, (GlaLead.lineOf S i).2)]).length = 2 * l.length := by
    intro l
    induction l with
    | nil => rfl
    | cons a r ih => rw [List.flatMap_cons, List.length_append, ih, List.length_cons]; simp; omega
  rw [endsList, this, List.length_range]
theorem pairsUp_in (s : LeadShop) (S : Plan) (v : Nat) : ∀ (r pre : List Nat) (z : Z3), z ∈ pairsUp s S v pre r → (pairOf z).1 ∈ pre ++ r ∧ (pairOf z).2 ∈ r
  | [], pre, z, h => nomatch h
  | j :: r, pre, z, h => by
    rw [pairsUp] at h
    rcases List.mem_append.1 h with q | q
    · obtain ⟨i, hi0, hi⟩ := List.mem_filterMap.1 q
      rw [trip] at hi
      split at hi
      · obtain rfl := Option.some.inj hi
        exact ⟨List.mem_append_left _ hi0, List.mem_cons_self⟩
      · cases hi
    · have := pairsUp_in s S v r _ z q
      rw [List.append_assoc] at this
      exact ⟨this.1, List.mem_cons_of_mem _ this.2⟩
theorem joinRow_in {s : LeadShop} {S : Plan} {v : Nat} {ls : List Nat} {x : Nat × Nat} (h : x ∈ joinRow s S v ls) : x.1 ∈ ls ∧ x.2 ∈ ls := by
  obtain ⟨z, hz, rfl⟩ := List.mem_map.1 h
  exact pairsUp_in s S v ls [] z ((sort3_perm _).mem_iff.1 hz)
theorem leadsAt_ends {S : Plan} {v i : Nat} (h : i ∈ GlaLead.leadsAt S v) : (i, v) ∈ endsList S := by
  rw [GlaLead.leadsAt, List.mem_filter] at h
  obtain ⟨h1, h2⟩ := h
  refine List.mem_flatMap.2 ⟨i, List.mem_range.2 (leads_lt h1), ?_⟩
  simp only [Bool.or_eq_true, beq_iff_eq] at h2
  rcases h2 with z | z
  · rw [z]; exact List.mem_cons_self
  · rw [z]; exact List.mem_cons_of_mem _ List.mem_cons_self
theorem partner_mem {D : List (Nat × Nat)} {i : Nat} (h : (partner D i).isSome = true) : ∃ y ∈ D, y.1 = i ∨ y.2 = i := by
  refine Classical.byContradiction fun no => ?_
  have : partner D i = none := partner_none.2 fun y hy => ⟨fun z => no ⟨y, hy, .inl z⟩, fun z => no ⟨y, hy, .inr z⟩⟩
  rw [this] at h; cases h
theorem part_ends {s : LeadShop} {S : Plan} {v : Nat} {l : List (Nat × Nat)} (hl : ∀ x ∈ l, x ∈ ownRow s S v) {i : Nat} (h : (onP (partner (greedy l) i)).isSome = true) : (i, v) ∈ endsList S := by
  have : (partner (greedy l) i).isSome = true := by
    cases e : partner (greedy l) i with
    | none => rw [e] at h; cases h
    | some _ => rfl
  obtain ⟨y, hy, hi⟩ := partner_mem this
  rcases greedy_sub l [] y hy with q | q
  · cases q
  · have := hl y q
    rw [ownRow] at this
    split at this
    · cases this
    · obtain ⟨h1, h2⟩ := joinRow_in this
      rcases hi with z | z
      · rw [← z]; exact leadsAt_ends h1
      · rw [← z]; exact leadsAt_ends h2
theorem leadsAt_nodup (S : Plan) (v : Nat) : (GlaLead.leadsAt S v).Nodup := by
  rw [GlaLead.leadsAt, GlaLead.leads]
  exact (List.nodup_range.filter _).filter _
theorem pairsUp_ne (s : LeadShop) (S : Plan) (v : Nat) : ∀ (r pre : List Nat) (z : Z3), (pre ++ r).Nodup → z ∈ pairsUp s S v pre r → (pairOf z).1 ≠ (pairOf z).2
  | [], pre, z, _, h => nomatch h
  | j :: r, pre, z, nd, h => by
    rw [pairsUp] at h
    rcases List.mem_append.1 h with q | q
    · obtain ⟨i, hi0, hi⟩ := List.mem_filterMap.1 q
      rw [trip] at hi
      split at hi
      · obtain rfl := Option.some.inj hi
        rw [List.nodup_append] at nd
        exact nd.2.2 i hi0 j List.mem_cons_self
      · cases hi
    · exact pairsUp_ne s S v r _ z (by rw [List.append_assoc]; exact nd) q
theorem joinRow_ne {s : LeadShop} {S : Plan} {v : Nat} {ls : List Nat} (nd : ls.Nodup) {x : Nat × Nat} (h : x ∈ joinRow s S v ls) : x.1 ≠ x.2 := by
  obtain ⟨z, hz, rfl⟩ := List.mem_map.1 h
  exact pairsUp_ne s S v ls [] z nd ((sort3_perm _).mem_iff.1 hz)
/-- what one pair more does -/
theorem partner_step {D : List (Nat × Nat)} {x : Nat × Nat} (hne : x.1 ≠ x.2) (i : Nat) : partner (gstep D x) i = if partner D x.1 = none ∧ partner D x.2 = none then (if i = x.2 then some x.1 else if i = x.1 then some x.2 else partner D i) else partner D i := by
  by_cases h : partner D x.1 = none ∧ partner D x.2 = none
  · rw [if_pos h, gstep, if_neg (fun z => gstep_any.1 z h), partner_snoc]
    by_cases h2 : i = x.2
    · rw [if_pos h2, h2, h.2]
      simp [hne]
    · rw [if_neg h2]
      by_cases h1 : i = x.1
      · rw [if_pos h1, h1, h.1]
        simp
      · rw [if_neg h1]
        cases partner D i with
        | some y => rfl
        | none => simp [Ne.symm h1, Ne.symm h2]
  · rw [if_neg h, gstep, if_pos (gstep_any.2 h)]
section
variable {K : PySem.W.Frag}
theorem sql_del {H : Hp} {g a : Addr} {xs : List V} {kvs : List (List Key × V)} (hg : H g = some (.dT kvs)) (h : SqL K H a xs) : SqL K (del H g) a xs := by
  rcases h with (h | ⟨o, h⟩) | h
  · exact .inl (.inl (by rw [del_ne (by rintro rfl; rw [hg] at h; cases h)]; exact h))
  · exact .inl (.inr ⟨o, by rw [del_ne (by rintro rfl; rw [hg] at h; cases h)]; exact h⟩)
  · exact .inr h
theorem itsPr_del {H : Hp} {g : Addr} {xs : List (Nat × Nat)} {us : List V} {kvs : List (List Key × V)} (hg : H g = some (.dT kvs)) (h : Its (isPr K) xs us H) : Its (isPr K) xs us (del H g) := ⟨h.1, fun i x hx => (h.2 i x hx).imp fun v q => ⟨q.1, q.2.imp fun a z => ⟨z.1, by rw [del_ne (by rintro rfl; rw [hg] at z; cases z.2)]; exact z.2⟩⟩⟩
theorem ev_dnotinU {σ : L2.St} {H : Hp} {ty td : TE} {g : Addr} {f : Nat × Nat → Option V} {p : Nat × Nat} (hy : EvU ty σ H [.int (p.1 : Int), .int (p.2 : Int)]) (hd : Ev td σ H (.ref g)) (h : isDT H g f) : Ev (tDNotIn ty td) σ H (.bl (!(f p).isSome)) := fun H1 e1 Q q =>
  hy H1 e1 _ fun b H2 _ e2 hb => hd H2 (e1.trans e2) _ fun H3 e3 => ⟨g, f p, rfl, (h.mono ((e1.trans e2).trans e3)).get (e3 _ _ hb), q H3 (e2.trans e3)⟩
theorem ev_dinU {σ : L2.St} {H : Hp} {ty td : TE} {g : Addr} {f : Nat × Nat → Option V} {p : Nat × Nat} (hy : EvU ty σ H [.int (p.1 : Int), .int (p.2 : Int)]) (hd : Ev td σ H (.ref g)) (h : isDT H g f) : Ev (tDIn ty td) σ H (.bl (f p).isSome) := fun H1 e1 Q q =>
  hy H1 e1 _ fun b H2 _ e2 hb => hd H2 (e1.trans e2) _ fun H3 e3 => ⟨g, f p, rfl, (h.mono ((e1.trans e2).trans e3)).get (e3 _ _ hb), q H3 (e2.trans e3)⟩
theorem s_dputU {σ : L2.St} {H : Hp} {ty td tv : TE} {D : Ends} {v : V} {g : Addr} {f : Nat × Nat → Option V} {p : Nat × Nat} (m : List (Nat × Nat)) (hy : EvU ty σ H [.int (p.1 : Int), .int (p.2 : Int)]) (hd : Ev td σ H (.ref g)) (hv : Ev tv σ H v) (h : isDT H g f) (hm : ∀ p, (f p).isSome = true → p ∈ m) (hz : m.length < 1000000)
    (k : ∀ H1 ob, Ex H H1 → isDT (upd H1 g ob) g (fun q => if q = p then some v else f q) → D.nx σ (upd H1 g ob)) : sDPut td ty tv D σ H :=
  hv H (Ex.refl H) _ fun H1 e1 => hd H1 e1 _ fun H2 e2 => hy H2 (e1.trans e2) _ fun b H3 _ e3 hb => by
    have e := (e1.trans e2).trans e3
    obtain ⟨ob, h1, h2⟩ := (h.mono e).put v hb m hm hz
    exact ⟨g, _, rfl, h1, k H3 ob e h2⟩
theorem q_dputU {σ : L2.St} {H : Hp} {ty td tv : TE} {D : Ends} {tz : TS} {v : V} {g : Addr} {f : Nat × Nat → Option V} {p : Nat × Nat} (m : List (Nat × Nat)) (hy : EvU ty σ H [.int (p.1 : Int), .int (p.2 : Int)]) (hd : Ev td σ H (.ref g)) (hv : Ev tv σ H v) (h : isDT H g f) (hm : ∀ p, (f p).isSome = true → p ∈ m) (hz : m.length < 1000000)
    (k : ∀ H1 ob, Ex H H1 → isDT (upd H1 g ob) g (fun q => if q = p then some v else f q) → tz D σ (upd H1 g ob)) : tSeq (sDPut td ty tv) tz D σ H := s_dputU (D := { D with nx := tz D }) m hy hd hv h hm hz k
theorem s_forLR {α : Type} {R : α → V → Hp → Prop} {xs : List α} {σ : L2.St} {H : Hp} {te : TE} {D : Ends} {tu : TS} {g : TG} (h : EvR te σ H (isL K R xs))
    (k : ∀ a us H1, Ex H H1 → SqL K H1 a us → Its R xs us H1 → ∃ Pv : Nat → L2.St → Hp → Prop, Pv 0 σ H1 ∧ (∀ i σ' H', Pv i σ' H' → SqL K H' a us) ∧
      (∀ i x v σ' H', xs[i]? = some x → us[i]? = some v → Pv i σ' H' → g v σ' H' fun σ2 H2 => tu { D with nx := Pv (i + 1), ct := Pv (i + 1), bk := D.nx } σ2 H2) ∧ ∀ σ' H', Pv xs.length σ' H' → D.nx σ' H') : tFor (iList K te) g tu D σ H :=
  h H (Ex.refl H) _ fun v H1 e1 r => by
    obtain ⟨a, us, rfl, hq, hI⟩ := r
    obtain ⟨Pv, h0, hl, hs, hd⟩ := k a us H1 e1 hq hI
    exact ⟨a, rfl, ⟨us, hq⟩, for_list Pv h0 (fun i σ' H' _ p => hl i σ' H' p) (fun i v σ' H' hv p => by
      obtain ⟨x, hx, _⟩ := hI.get hv
      exact hs i x v σ' H' hx hv p) fun σ' H' p => hd σ' H' (by rw [← hI.1]; exact p)⟩
end
section
variable {P : Program} {w : World} {K : PySem.W.Frag} {mg : Str → Option Value} {base : Heap} {C : Addr}
def isJ (s : LeadShop) (S : Plan) (v : V) (H : Hp) : Prop := ∃ g, v = .ref g ∧ isDT H g (fJ s S S.pts.length)
def Ajo (K : PySem.W.Frag) (C : Addr) : List V → Hp → (V → Hp → Prop) → Prop := fun vs H R => ∃ (x : V) (S : Plan) (s : LeadShop), vs = [x, .int (s.a : Int), .int (s.b : Int)] ∧ isDr K C S x H ∧ GN S ∧ (s.a ≤ 1000 ∧ s.b ≤ 1000) ∧ (∀ v, v < S.pts.length → (GlaLead.leadsAt S v).length ≤ 300) ∧ R = isJ s S
theorem Ajo.mono : Mono (Ajo K C) := fun vs H H' v e ⟨x, S, s, h, h1, h2⟩ => ⟨x, S, s, h, h1.mono e, h2⟩
abbrev s_joins_of : Stmt := topS 31
abbrev N_joins_of : List Str := ["drawing", "a", "b", "joined", "leads_at", "point", "place", "first", "second"]
theorem sc_joins_of : FnScope N_joins_of ["drawing", "a", "b"] (defScope s_joins_of) := ⟨rfl, rfl, rfl, by decide +kernel, rfl, by decide +kernel, by decide +kernel⟩
theorem k_joins_of (T : Txt K mg) (D : DrC K C) (F : Dfn K mg "joins_of" s_joins_of ["drawing", "a", "b"]) (c_leads_by_point : Cal P w K mg base 3 "leads_by_point" (spR (Albp K C)))
    (c_on_frame : Cal P w K mg base 1 "on_frame" (spV (Adp K C fun S p => .bl (p.x == 0 || (p.x == S.w || (p.y == 0 || p.y == S.h)))))) (c_pairs_through : Cal P w K mg base 2 "pairs_through" (spR (Apt K C))) : Cal P w K mg base 4 "joins_of" (spR (Ajo K C)) := by
  refine mk_R F sc_joins_of (fun vs H v h => by obtain ⟨_, _, _, rfl, _⟩ := h; rfl) (fun f cdv A' outer s0 H vs E v0 hr a => ?_)
  obtain ⟨x, S, s, rfl, id, gn, ⟨hsa, hsb⟩, hdeg, rfl⟩ := a
  have id0 := id
  obtain ⟨a, dx, fs, vp, vl, vm, rfl, h2, f1, f2, f3, f4, f5, ⟨lp, us, rfl, hp, ip⟩, il, im⟩ := id
  have cl := D.cl
  have n3 := D.n3
  have m1 : Mono (Adp K C fun S p => .bl (p.x == 0 || (p.x == S.w || (p.y == 0 || p.y == S.h)))) := Adp.mono
  refine ⟨_, (pss_cons (ps_set (i := 3) sc_joins_of.nd rfl (Or.inl rfl) pe_dnewT)
      (pss_cons (ps_set (i := 4) sc_joins_of.nd rfl (Or.inl rfl) (pe_c c_leads_by_point hr (by decide) (by rfl) (pa_cons (pv 0) pa_nil)))
      (pss_cons (ps_for PassesOwn.never rfl (pi_enum (by rfl) T.enumerate (pa_cons (pe_fld (pv 0) rfl) pa_nil)) (pg_tup (by rfl) (pgs_cons (pg_name (i := 5) sc_joins_of.nd rfl (Or.inl rfl)) (pgs_cons (pg_name (i := 6) sc_joins_of.nd rfl (Or.inl rfl)) pgs_nil)))
        (pss_one (ps_if (pt_not (pt_val (pe_c c_on_frame hr (by decide) (by rfl) (pa_cons (pv 0) (pa_cons (pv 6) pa_nil))))) (pss_one (ps_for PassesOwn.never rfl (pi_list (pe_c c_pairs_through hr (by decide) (by rfl) (pa_cons (pv 0) (pa_cons (pv 5) (pa_cons (pe_ix ix_list (pv 4) (pv 5) (fun _ _ => rfl)) (pa_cons (pv 1) (pa_cons (pv 2) pa_nil))))))) (pg_tup (by rfl) (pgs_cons (pg_name (i := 7) sc_joins_of.nd rfl (Or.inl rfl)) (pgs_cons (pg_name (i := 8) sc_joins_of.nd rfl (Or.inl rfl)) pgs_nil)))
        (pss_one (ps_if (PW.pt (pw_and (pt_cmp (pc_dnotin (hu_of hr) (pe_tup (pa_cons (pv 7) (pa_cons (pv 5) pa_nil))) (pv 3)) rfl) (pw_and1 (pt_cmp (pc_dnotin (hu_of hr) (pe_tup (pa_cons (pv 8) (pa_cons (pv 5) pa_nil))) (pv 3)) rfl)))) (pss_cons (ps_dput (hu_of hr) (pv 3) (pe_tup (pa_cons (pv 7) (pa_cons (pv 5) pa_nil))) (pv 8) rfl)
      (pss_one (ps_dput (hu_of hr) (pv 3) (pe_tup (pa_cons (pv 8) (pa_cons (pv 5) pa_nil))) (pv 7) rfl))) pss_nil)))) pss_nil)))
      (pss_one (ps_ret (pv 3)))))), fun Q kq => ?_⟩
  apply q_asgF ef_dnewT
  intro g H1 hg e1 hg1
  have h21 := e1 _ _ h2
  apply q_asgR
  · exact er_callR Albp.mono (vs := [.ref a]) (ea_cons (ev_var rfl) ea_nil) ⟨.ref a, S, rfl, id0.mono e1, gn, rfl⟩
  · intro N H2 e2 iN
    have hg2 := e2 _ _ hg1
    have e02 := e1.trans e2
    have iN2 := iN
    obtain ⟨Na, Nus, rfl, hN, iNs⟩ := iN
    refine q_forEn (a := lp) (xs := us) ?_ (ex_l e02 hp) (fun i σ' H' => ∃ (o5 o6 o7 o8 : Option V), Ex (del H2 g) H' ∧ isDT H' g (fJ s S i) ∧ σ' = [some (.ref a), some (.int (s.a : Int)), some (.int (s.b : Int)), some (.ref g), some (.ref Na), o5, o6, o7, o8]) ?_ ?_ ?_ ?_
    · have h22 := e02 _ _ h2
      walk_at "ev"
    · intro H3 e3
      refine ⟨none, none, none, none, del_ex.trans e3, ?_, rfl⟩
      have := isDT.nil ((e2.trans e3) _ _ hg1)
      have ef : fJ s S 0 = fun _ => none := by
        funext q; rw [fJ, if_neg (Nat.not_lt_zero _)]
      rw [ef]; exact this
    · rintro i σ' H' ⟨_, _, _, _, d1, _⟩
      exact ex_l d1 (sql_del hg2 (ex_l e02 hp))
    · rintro i u σ' H3a H3 hu ⟨o5, o6, o7, o8, d1, d2, rfl⟩ e3a
      replace d1 := d1.trans e3a
      replace d2 := d2.mono e3a
      obtain ⟨pt, hpt, ipt⟩ := ip.get hu
      have hi : i < S.pts.length := (List.getElem?_eq_some_iff.1 hpt).1
      have hpe : pt = S.pt i := by
        have := Geo.pt_get hi
        rw [hpt] at this; exact Option.some.inj this
      subst hpe
      have hx : Ex H (del H2 g) := ex_del e02 hg
      have e03 := hx.trans d1
      have a1 : Adp K C (fun S p => .bl (p.x == 0 || (p.x == S.w || (p.y == 0 || p.y == S.h)))) [.ref a, u] H3 (.bl (GlaLead.onFrame S (S.pt i))) := ⟨.ref a, u, S, S.pt i, rfl, id0.mono e03, ipt.mono e03, rfl⟩
      apply s_when (b := !GlaLead.onFrame S (S.pt i))
      · walk_at "ev"
      · intro hb H4 e4
        have hof : ¬ GlaLead.onFrame S (S.pt i) = true := by simpa using hb
        have hrow : ownRow s S i = joinRow s S i (GlaLead.leadsAt S i) := by rw [ownRow, if_neg hof]
        have e04 := e03.trans e4
        have hN4 : SqL K H4 Na Nus := ex_l (d1.trans e4) (sql_del hg2 hN)
        have hla : (latsOf S)[i]? = some (GlaLead.leadsAt S i) := by rw [latsOf, List.getElem?_map, List.getElem?_range hi]; rfl
        obtain ⟨lv, hlv, ilv⟩ := iNs.2 i _ hla
        have hlv' := atI_nat hlv
        have ilv4 : isL K isI (GlaLead.leadsAt S i) lv H4 := by
          obtain ⟨b1, b2, rfl, b3, b4⟩ := ilv
          exact ⟨b1, b2, rfl, ex_l (d1.trans e4) (sql_del hg2 b3), ⟨b4.1, b4.2⟩⟩
        have hin : ∀ j ∈ GlaLead.leadsAt S i, j < S.lines.length := fun j hj => leads_lt (List.mem_filter.1 hj).1
        have er := er_callR (σ := [some (.ref a), some (.int (s.a : Int)), some (.int (s.b : Int)), some (.ref g), some (.ref Na), some (.int (i : Int)), some u, o7, o8]) (H := H4) (tr := tCons (tVar 0) (tCons (tVar 5) (tCons (tOp (rIxL K) (tVar 4) (tVar 5)) (tCons (tVar 1) (tCons (tVar 2) tNil))))) Apt.mono (vs := [.ref a, .int (i : Int), lv, .int (s.a : Int), .int (s.b : Int)]) (by walk_at "ev") ⟨.ref a, lv, S, s, i, GlaLead.leadsAt S i, rfl, id0.mono e04, ilv4, gn, hi, hin, ⟨hsa, hsb⟩, hdeg i hi, rfl⟩
        rw [← hrow] at er
        refine s_forLR er ?_
        intro la lus H5 e5 hl5 il5
        have d25 := d2.mono (e4.trans e5)
        obtain ⟨kvs5, hg5, _⟩ := id d25
        have fJ0 : fJ s S i = fun q => if q.2 < i then onP (partner (greedy (ownRow s S q.2)) q.1) else if q.2 = i then onP (partner (greedy ((ownRow s S i).take 0)) q.1) else none := by
          funext q
          rw [fJ]
          split
          · rfl
          · split <;> rfl
        rw [fJ0] at d25
        have hen : ∀ (m : Nat) (q : Nat × Nat), ((if q.2 < i then onP (partner (greedy (ownRow s S q.2)) q.1) else if q.2 = i then onP (partner (greedy ((ownRow s S i).take m)) q.1) else none).isSome = true) → q ∈ endsList S := by
          intro m q hq
          split at hq
          · exact part_ends (v := q.2) (fun x h => h) hq
          · split at hq
            · rename_i h2
              have := part_ends (v := i) (fun x h => List.mem_of_mem_take h) hq
              rw [← h2] at this; exact this
            · cases hq
        refine ⟨fun m σ' H' => ∃ o7 o8, Ex (del H5 g) H' ∧ isDT H' g (fun q => if q.2 < i then onP (partner (greedy (ownRow s S q.2)) q.1) else if q.2 = i then onP (partner (greedy ((ownRow s S i).take m)) q.1) else none) ∧ σ' = [some (.ref a), some (.int (s.a : Int)), some (.int (s.b : Int)), some (.ref g), some (.ref Na), some (.int (i : Int)), some u, o7, o8], ⟨o7, o8, del_ex, d25, rfl⟩, ?_, ?_, ?_⟩
        · rintro m σ' H' ⟨_, _, d1', _⟩
          exact ex_l d1' (sql_del hg5 hl5)
        · rintro m x v σ' H6 hx hv ⟨o7, o8, d1', d2', rfl⟩
          obtain ⟨v', hv', t, rfl, ht⟩ := (itsPr_del hg5 il5).2 m x hx
          rw [hv] at hv'
          obtain rfl := Option.some.inj hv'
          have hxr : x ∈ joinRow s S i (GlaLead.leadsAt S i) := by rw [← hrow]; exact List.mem_of_getElem? hx
          have hne := joinRow_ne (leadsAt_nodup S i) hxr
          have et : (ownRow s S i).take (m + 1) = (ownRow s S i).take m ++ [x] := by rw [List.take_add_one, hx]; rfl
          refine g_pair (d1' _ _ ht) ?_
          dsimp only
          have pst := partner_step (D := greedy ((ownRow s S i).take m)) hne
          have hen0 := hen m
          rw [et, greedy_snoc]
          obtain ⟨hx1, hx2⟩ := joinRow_in hxr
          have k1 := leadsAt_ends hx1
          have k2 := leadsAt_ends hx2
          have hel : (endsList S).length < 1000000 := by rw [ends_len]; have := gn.nl; omega
          clear hen fJ0 et
          generalize greedy ((ownRow s S i).take m) = Dm at *
          have fat : ∀ l, (fun q : Nat × Nat => if q.2 < i then onP (partner (greedy (ownRow s S q.2)) q.1) else if q.2 = i then onP (partner Dm q.1) else none) (l, i) = onP (partner Dm l) := fun l => by
            show (if i < i then _ else if i = i then _ else _) = _
            rw [if_neg (Nat.lt_irrefl _), if_pos rfl]
          apply s_when (b := decide (partner Dm x.1 = none ∧ partner Dm x.2 = none))
          · refine et_is (a := (!((fun q : Nat × Nat => if q.2 < i then onP (partner (greedy (ownRow s S q.2)) q.1) else if q.2 = i then onP (partner Dm q.1) else none) (x.1, i)).isSome) && !((fun q : Nat × Nat => if q.2 < i then onP (partner (greedy (ownRow s S q.2)) q.1) else if q.2 = i then onP (partner Dm q.1) else none) (x.2, i)).isSome) (et_and (et_B (ev_dnotinU (p := (x.1, i)) (eu_tup (ea_cons (ev_var rfl) (ea_cons (ev_var rfl) ea_nil)) (by simp)) (ev_var rfl) d2')) (fun _ => et_B (ev_dnotinU (p := (x.2, i)) (eu_tup (ea_cons (ev_var rfl) (ea_cons (ev_var rfl) ea_nil)) (by simp)) (ev_var rfl) d2'))) ?_
            rw [fat, fat]
            cases partner Dm x.1 <;> cases partner Dm x.2 <;> simp [onP]
          · intro hb7 H7 e7
            have hb7 := of_decide_eq_true hb7
            refine q_dputU (p := (x.1, i)) (v := .int (x.2 : Int)) (endsList S) (eu_tup (ea_cons (ev_var rfl) (ea_cons (ev_var rfl) ea_nil)) (by simp)) (ev_var rfl) (ev_var rfl) (d2'.mono e7) hen0 hel ?_
            intro H8 ob8 e8 d8
            refine s_dputU (p := (x.2, i)) (v := .int (x.1 : Int)) (endsList S) (eu_tup (ea_cons (ev_var rfl) (ea_cons (ev_var rfl) ea_nil)) (by simp)) (ev_var rfl) (ev_var rfl) d8 ?_ hel ?_
            · intro q hq
              by_cases z : q = (x.1, i)
              · rw [z]; exact k1
              · exact hen0 q (by simpa [z] using hq)
            · intro H9 ob9 e9 d9
              refine ⟨_, _, Ex.mut ((Ex.mut ((d1'.trans e7).trans e8) del_at).trans e9) del_at, ?_, rfl⟩
              have ef : (fun q : Nat × Nat => if q = (x.2, i) then some (V.int (x.1 : Int)) else if q = (x.1, i) then some (.int (x.2 : Int)) else if q.2 < i then onP (partner (greedy (ownRow s S q.2)) q.1) else if q.2 = i then onP (partner Dm q.1) else none) =
                  fun q => if q.2 < i then onP (partner (greedy (ownRow s S q.2)) q.1) else if q.2 = i then onP (partner (gstep Dm x) q.1) else none := by
                funext q
                obtain ⟨q1, q2⟩ := q
                by_cases h2 : q2 = i
                · subst h2
                  simp only [Nat.lt_irrefl, if_false, if_true, Prod.mk.injEq, and_true]
                  rw [pst q1, if_pos hb7]
                  by_cases z2 : q1 = x.2
                  · rw [if_pos z2, if_pos z2]; rfl
                  · rw [if_neg z2, if_neg z2]
                    by_cases z1 : q1 = x.1
                    · rw [if_pos z1, if_pos z1]; rfl
                    · rw [if_neg z1, if_neg z1]
                · simp [h2]
              rw [← ef]; exact d9
          · intro hb7 H7 e7
            have hb7 := of_decide_eq_false hb7
            refine ⟨_, _, d1'.trans e7, ?_, rfl⟩
            have ef : (fun q : Nat × Nat => if q.2 < i then onP (partner (greedy (ownRow s S q.2)) q.1) else if q.2 = i then onP (partner Dm q.1) else none) =
                fun q => if q.2 < i then onP (partner (greedy (ownRow s S q.2)) q.1) else if q.2 = i then onP (partner (gstep Dm x) q.1) else none := by
              funext q
              rw [pst q.1, if_neg hb7]
            rw [← ef]; exact d2'.mono e7
        · rintro σ' H6 ⟨o7, o8, d1', d2', rfl⟩
          refine ⟨_, _, _, _, ?_, ?_, rfl⟩
          · exact (ex_del ((d1.trans e4).trans e5) del_at).trans d1'
          · rw [List.take_length] at d2'
            have ef : (fun q : Nat × Nat => if q.2 < i then onP (partner (greedy (ownRow s S q.2)) q.1) else if q.2 = i then onP (partner (greedy (ownRow s S i)) q.1) else none) = fJ s S (i + 1) := by
              funext q
              rw [fJ]
              by_cases h1 : q.2 < i
              · rw [if_pos h1, if_pos (by omega)]
              · rw [if_neg h1]
                by_cases h2 : q.2 = i
                · rw [if_pos h2, if_pos (by omega), h2]
                · rw [if_neg h2, if_neg (by omega)]
            rw [← ef]; exact d2'
      · intro hb H4 e4
        have hof : GlaLead.onFrame S (S.pt i) = true := by simpa using hb
        refine ⟨_, _, _, _, d1.trans e4, ?_, rfl⟩
        have ef : fJ s S (i + 1) = fJ s S i := by
          funext q
          rw [fJ, fJ]
          by_cases h1 : q.2 < i
          · rw [if_pos h1, if_pos (by omega)]
          · rw [if_neg h1]
            by_cases h2 : q.2 = i
            · rw [if_pos (by omega), h2, ownRow, if_pos hof]; rfl
            · rw [if_neg (by omega)]
        rw [ef]; exact d2.mono e4
    · rintro σ' H3 ⟨o5, o6, o7, o8, d1, d2, rfl⟩
      rw [ip.1] at d2
      apply s_ret
      · exact ev_var rfl
      · intro H4 e4
        refine kq _ H4 (((ex_del e02 hg).trans d1).trans e4) ⟨g, rfl, d2.mono e4⟩
end
end Hl
end PHl24

section PHl25
set_option Elab.async false
set_option linter.all false
set_option maxRecDepth 100000
set_option maxHeartbeats 4000000
local macro_rules | `(tactic| walk_at "ev") => `(tactic| (first
  | exact Evl.ev_c
  | exact Evl.ev_var rfl
  | (apply Hl.ev_I0 <;> walk_at "ev")
  | (apply Hl.ev_I <;> walk_at "ev")
  | (apply Hl.ev_ixT <;> walk_at "ev")
  | (apply Hl.ev_ixL <;> walk_at "ev")
  | exact Evl.ea_nil
  | (apply Evl.ea_cons <;> walk_at "ev")
  | (apply Hl.ev_callV <;> first | assumption | walk_at "ev")
  | (apply Hl.ev_eq <;> walk_at "ev")
  | (apply Hl.ev_ne <;> walk_at "ev")
  | (apply Hl.ev_fld <;> first | assumption | walk_at "ev")
  | (apply Hl.ev_lenL <;> first | assumption | walk_at "ev")
  | (apply Hl.ev_chain <;> first | (refine fun (_ : _ = _) => ?_; walk_at "ev") | walk_at "ev")
  | (apply Evl.ev_orV <;> first | (refine fun (_ : _ = _) => ?_; walk_at "ev") | walk_at "ev")
  | (apply Evl.ev_andV <;> first | (refine fun (_ : _ = _) => ?_; walk_at "ev") | walk_at "ev")
  | (apply Evl.ev_notV <;> walk_at "ev")
  | (apply Evl.et_test <;> walk_at "ev")
  | (apply Evl.et_B <;> walk_at "ev")
  | (apply Evl.et_not <;> walk_at "ev")
  | (apply Evl.et_and <;> first | (refine fun (_ : _ = _) => ?_; walk_at "ev") | walk_at "ev")
  | (apply Evl.et_or <;> first | (refine fun (_ : _ = _) => ?_; walk_at "ev") | walk_at "ev")
  | assumption
  | (exact Evl.st_of (by assumption))
  | exact rfl
  | skip))

namespace Hl
open PySem PySem.Spec PyProof.Rows L2 Evl
open GlaPlan (Pt Plan)
open GlaLead (LeadShop)
/-! ### joins are two by two -/
theorem partner_sym : ∀ (l : List (Nat × Nat)), (∀ x ∈ l, x.1 ≠ x.2) → ∀ (D : List (Nat × Nat)), (∀ i j, partner D i = some j → partner D j = some i ∧ i ≠ j) → ∀ i j, partner (l.foldl gstep D) i = some j → partner (l.foldl gstep D) j = some i ∧ i ≠ j
  | [], _, D, h, i, j, q => h i j q
  | x :: r, hl, D, h, i, j, q => by
    have hne := hl x List.mem_cons_self
    refine partner_sym r (fun y hy => hl y (List.mem_cons_of_mem _ hy)) (gstep D x) ?_ i j q
    intro i j q
    rw [partner_step hne] at q ⊢
    by_cases hc : partner D x.1 = none ∧ partner D x.2 = none
    · rw [if_pos hc] at q ⊢
      by_cases h2 : i = x.2
      · rw [if_pos h2] at q
        obtain rfl := Option.some.inj q
        rw [if_neg hne, if_pos rfl, h2]
        exact ⟨rfl, fun z => hne z.symm⟩
      · rw [if_neg h2] at q
        by_cases h1 : i = x.1
        · rw [if_pos h1] at q
          obtain rfl := Option.some.inj q
          rw [if_pos rfl, h1]
          exact ⟨rfl, hne⟩
        · rw [if_neg h1] at q
          obtain ⟨a, b⟩ := h i j q
          rw [if_neg (by rintro rfl; rw [hc.2] at a; cases a), if_neg (by rintro rfl; rw [hc.1] at a; cases a)]
          exact ⟨a, b⟩
    · rw [if_neg hc] at q ⊢
      exact h i j q
def jn (s : LeadShop) (S : Plan) (i p : Nat) : Option Nat := if p < S.pts.length then partner (greedy (ownRow s S p)) i else none
theorem fJ_jn (s : LeadShop) (S : Plan) (q : Nat × Nat) : fJ s S S.pts.length q = onP (jn s S q.1 q.2) := by
  rw [fJ, jn]
  split <;> rfl
/-- a line's end -/
def isEnd (S : Plan) (i v : Nat) : Prop := i < S.lines.length ∧ ((GlaLead.lineOf S i).1 = v ∨ (GlaLead.lineOf S i).2 = v)
theorem own_ends {s : LeadShop} {S : Plan} {p : Nat} {x : Nat × Nat} (h : x ∈ ownRow s S p) : (x.1 ∈ GlaLead.leadsAt S p ∧ x.2 ∈ GlaLead.leadsAt S p) ∧ x.1 ≠ x.2 := by
  rw [ownRow] at h
  split at h
  · cases h
  · exact ⟨joinRow_in h, joinRow_ne (leadsAt_nodup S p) h⟩
theorem leadsAt_end {S : Plan} {v i : Nat} (h : i ∈ GlaLead.leadsAt S v) : isEnd S i v := by
  rw [GlaLead.leadsAt, List.mem_filter] at h
  obtain ⟨h1, h2⟩ := h
  simp only [Bool.or_eq_true, beq_iff_eq] at h2
  exact ⟨leads_lt h1, h2⟩
theorem jn_sym {s : LeadShop} {S : Plan} {i j p : Nat} (h : jn s S i p = some j) : jn s S j p = some i ∧ i ≠ j := by
  rw [jn] at h ⊢
  split at h
  · rename_i hp
    rw [if_pos hp]
    exact partner_sym (ownRow s S p) (fun x hx => (own_ends hx).2) [] (fun i j q => nomatch q) i j h
  · cases h
theorem jn_in {s : LeadShop} {S : Plan} {i j p : Nat} (h : jn s S i p = some j) : i ∈ GlaLead.leadsAt S p := by
  rw [jn] at h
  split at h
  · obtain ⟨y, hy, hi⟩ := partner_mem (D := greedy (ownRow s S p)) (i := i) (by rw [h]; rfl)
    rcases greedy_sub _ [] y hy with q | q
    · cases q
    · obtain ⟨⟨a, b⟩, _⟩ := own_ends q
      rcases hi with z | z
      · rw [← z]; exact a
      · rw [← z]; exact b
  · cases h
theorem jn_end {s : LeadShop} {S : Plan} {i j p : Nat} (h : jn s S i p = some j) : isEnd S i p ∧ isEnd S j p := ⟨leadsAt_end (jn_in h), leadsAt_end (jn_in (jn_sym h).1)⟩
theorem oth_end {S : Plan} (lt : ∀ m ∈ S.lines, m.1 < m.2) {i v : Nat} (h : isEnd S i v) : isEnd S i (GlaLead.other S i v) ∧ GlaLead.other S i (GlaLead.other S i v) = v ∧ GlaLead.other S i v ≠ v := by
  obtain ⟨h1, h2⟩ := h
  have hl := lt _ (List.mem_of_getElem? (lineOf_get h1))
  rcases h2 with z | z
  · have o1 : GlaLead.other S i v = (GlaLead.lineOf S i).2 := by rw [GlaLead.other, if_pos z]
    have o2 : GlaLead.other S i (GlaLead.lineOf S i).2 = (GlaLead.lineOf S i).1 := by rw [GlaLead.other, if_neg (by omega)]
    rw [o1, o2]
    exact ⟨⟨h1, .inr rfl⟩, z, by omega⟩
  · have o1 : GlaLead.other S i v = (GlaLead.lineOf S i).1 := by rw [GlaLead.other, if_neg (by omega)]
    have o2 : GlaLead.other S i (GlaLead.lineOf S i).1 = (GlaLead.lineOf S i).2 := by rw [GlaLead.other, if_pos rfl]
    rw [o1, o2]
    exact ⟨⟨h1, .inl rfl⟩, z, by omega⟩
/-! ### ways along leads -/
abbrev St2 := Nat × Nat
def nxt (s : LeadShop) (S : Plan) (x : St2) : Option St2 := (jn s S x.2 (GlaLead.other S x.2 x.1)).map fun j => (GlaLead.other S x.2 x.1, j)
def rev2 (S : Plan) (x : St2) : St2 := (GlaLead.other S x.2 x.1, x.2)
section
variable {s : LeadShop} {S : Plan}
theorem nxt_some {x y : St2} (h : nxt s S x = some y) : jn s S x.2 (GlaLead.other S x.2 x.1) = some y.2 ∧ y.1 = GlaLead.other S x.2 x.1 := by
  obtain ⟨j, hj, rfl⟩ := Option.map_eq_some_iff.1 h
  exact ⟨hj, rfl⟩
theorem nxt_end {x y : St2} (h : nxt s S x = some y) : isEnd S y.2 y.1 := by
  obtain ⟨h1, h2⟩ := nxt_some h
  rw [h2]; exact (jn_end h1).2
theorem nxt_inj (lt : ∀ m ∈ S.lines, m.1 < m.2) {x x' y : St2} (e : isEnd S x.2 x.1) (e' : isEnd S x'.2 x'.1) (h : nxt s S x = some y) (h' : nxt s S x' = some y) : x = x' := by
  obtain ⟨a1, a2⟩ := nxt_some h
  obtain ⟨b1, b2⟩ := nxt_some h'
  have p := (jn_sym a1).1
  have q := (jn_sym b1).1
  rw [← a2] at p
  rw [← b2] at q
  rw [p] at q
  have hi : x.2 = x'.2 := Option.some.inj q
  have o1 := (oth_end lt e).2.1
  have o2 := (oth_end lt e').2.1
  rw [← a2] at o1
  rw [← b2, ← hi] at o2
  exact Prod.ext (by rw [← o1, ← o2]) hi
/-- back along the way -/
theorem nxt_rev (lt : ∀ m ∈ S.lines, m.1 < m.2) {x y : St2} (e : isEnd S x.2 x.1) (h : nxt s S x = some y) : nxt s S (rev2 S y) = some (rev2 S x) := by
  obtain ⟨a1, a2⟩ := nxt_some h
  have p := (jn_sym a1).1
  have ey := nxt_end h
  rw [nxt, rev2, rev2]
  simp only
  rw [(oth_end lt ey).2.1, a2, p]; rfl
theorem rev2_ne (lt : ∀ m ∈ S.lines, m.1 < m.2) {x : St2} (e : isEnd S x.2 x.1) : rev2 S x ≠ x := fun h => (oth_end lt e).2.2 (congrArg Prod.fst h)
theorem rev2_rev2 (lt : ∀ m ∈ S.lines, m.1 < m.2) {x : St2} (e : isEnd S x.2 x.1) : rev2 S (rev2 S x) = x := Prod.ext (oth_end lt e).2.1 rfl
theorem rev2_end (lt : ∀ m ∈ S.lines, m.1 < m.2) {x : St2} (e : isEnd S x.2 x.1) : isEnd S (rev2 S x).2 (rev2 S x).1 := (oth_end lt e).1
/-- a way: each behind the one before it -/
structure Path (s : LeadShop) (S : Plan) (f : Nat → St2) (n : Nat) : Prop where
  e0 : isEnd S (f 0).2 (f 0).1
  step : ∀ k, k < n → nxt s S (f k) = some (f (k + 1))
theorem Path.end_ {f : Nat → St2} {n : Nat} (p : Path s S f n) : ∀ k, k ≤ n → isEnd S (f k).2 (f k).1
  | 0, _ => p.e0
  | k + 1, h => nxt_end (p.step k (by omega))
/-- a way never comes to a lead it's gone along from its other end -/
theorem Path.norev (lt : ∀ m ∈ S.lines, m.1 < m.2) {f : Nat → St2} {n : Nat} (p : Path s S f n) : ∀ d i, i + d ≤ n → f (i + d) ≠ rev2 S (f i)
  | 0, i, h => fun z => rev2_ne lt (p.end_ i (by omega)) z.symm
  | 1, i, h => fun z => by
    have h1 := nxt_some (p.step i (by omega))
    have : (f (i + 1)).2 = (f i).2 := by rw [z]; rfl
    exact (jn_sym h1.1).2 this.symm
  | d + 2, i, h => fun z => by
    -- from both sides inward
    have a := p.step (i + d + 1) (by omega)
    have b := nxt_rev lt (p.end_ (i + d + 1) (by omega)) a
    have c := p.step i (by omega)
    rw [show i + (d + 2) = i + d + 1 + 1 by omega] at z
    rw [z, rev2_rev2 lt (p.end_ i (by omega))] at b
    rw [c] at b
    have e := Option.some.inj b
    have := Path.norev lt p d (i + 1) (by omega)
    refine this ?_
    rw [e, rev2_rev2 lt (p.end_ _ (by omega)), show i + 1 + d = i + d + 1 by omega]
/-- back at the first lead: at the first point -/
theorem Path.back (lt : ∀ m ∈ S.lines, m.1 < m.2) {f : Nat → St2} {n : Nat} (p : Path s S f n) {k : Nat} (h : k ≤ n) (e : (f k).2 = (f 0).2) : f k = f 0 := by
  have e1 := p.end_ k h
  have e2 := p.e0
  rw [e] at e1
  have no := Path.norev lt p k 0 (by omega)
  rw [Nat.zero_add] at no
  have o := oth_end lt e2
  obtain ⟨h1, h2⟩ := e1
  obtain ⟨_, h3⟩ := e2
  have h4 := lt _ (List.mem_of_getElem? (lineOf_get h1))
  by_cases q : (f k).1 = (f 0).1
  · exact Prod.ext q e
  · exfalso
    refine no (Prod.ext ?_ e)
    show (f k).1 = GlaLead.other S (f 0).2 (f 0).1
    rw [GlaLead.other]
    split <;> omega
theorem Path.nodup (lt : ∀ m ∈ S.lines, m.1 < m.2) {f : Nat → St2} {n : Nat} (p : Path s S f n) (no : ∀ k, 0 < k → k ≤ n → (f k).2 ≠ (f 0).2) : ∀ i j, i < j → j ≤ n → f i ≠ f j
  | 0, j, h, hj => fun z => no j (by omega) hj (by rw [z])
  | i + 1, 0, h, hj => by omega
  | i + 1, j + 1, h, hj => fun z => by
    have a := p.step i (by omega)
    have b := p.step j (by omega)
    rw [← z] at b
    exact Path.nodup lt p no i j (by omega) (by omega) (nxt_inj lt (p.end_ i (by omega)) (p.end_ j (by omega)) a b)
end
end Hl
end PHl25

section PHl26
set_option Elab.async false
set_option linter.all false
set_option maxRecDepth 100000
set_option maxHeartbeats 4000000
local macro_rules | `(tactic| walk_at "ev") => `(tactic| (first
  | exact Evl.ev_c
  | exact Evl.ev_var rfl
  | (apply Hl.ev_I0 <;> walk_at "ev")
  | (apply Hl.ev_I <;> walk_at "ev")
  | (apply Hl.ev_ixT <;> walk_at "ev")
  | (apply Hl.ev_ixL <;> walk_at "ev")
  | exact Evl.ea_nil
  | (apply Evl.ea_cons <;> walk_at "ev")
  | (apply Hl.ev_callV <;> first | assumption | walk_at "ev")
  | (apply Hl.ev_eq <;> walk_at "ev")
  | (apply Hl.ev_ne <;> walk_at "ev")
  | (apply Hl.ev_fld <;> first | assumption | walk_at "ev")
  | (apply Hl.ev_lenL <;> first | assumption | walk_at "ev")
  | (apply Hl.ev_chain <;> first | (refine fun (_ : _ = _) => ?_; walk_at "ev") | walk_at "ev")
  | (apply Evl.ev_orV <;> first | (refine fun (_ : _ = _) => ?_; walk_at "ev") | walk_at "ev")
  | (apply Evl.ev_andV <;> first | (refine fun (_ : _ = _) => ?_; walk_at "ev") | walk_at "ev")
  | (apply Evl.ev_notV <;> walk_at "ev")
  | (apply Evl.et_test <;> walk_at "ev")
  | (apply Evl.et_B <;> walk_at "ev")
  | (apply Evl.et_not <;> walk_at "ev")
  | (apply Evl.et_and <;> first | (refine fun (_ : _ = _) => ?_; walk_at "ev") | walk_at "ev")
  | (apply Evl.et_or <;> first | (refine fun (_ : _ = _) => ?_; walk_at "ev") | walk_at "ev")
  | assumption
  | (exact Evl.st_of (by assumption))
  | exact rfl
  | skip))

namespace Hl
open PySem PySem.Spec PyProof.Rows L2 Evl
open GlaPlan (Pt Plan)
open GlaLead (LeadShop)
/-! ### class Strip -/
structure StC (K : PySem.W.Frag) (C : Addr) : Prop where
  cl : Cls K C
  n1 : NoAttr K C "leads"
  n2 : NoAttr K C "points"
section
variable {P : Program} {w : World} {K : PySem.W.Frag} {mg : Str → Option Value} {base : Heap} {C C2 : Addr}
abbrev s_StI : Stmt := inClass (topS 37) 0
abbrev N_StI : List Str := ["self", "leads", "points"]
theorem sc_StI : FnScope N_StI N_StI (defScope s_StI) := ⟨rfl, rfl, rfl, by decide +kernel, rfl, by decide +kernel, by decide +kernel⟩
abbrev snames : List Str := ["leads", "points"]
theorem k_StI {f : Addr} {fd : FuncData} (D : StC K C) (F : Fun K "__init__" "Strip.__init__" s_StI f fd) : FnOk P w K mg base CX0 1 f fd N_StI (spI C snames) := by
  refine F.ok sc_StI (fun vs H Q E h => ?_) (fun cdv A outer s H vs Q E hr h => ?_)
  · obtain ⟨p, dx, us, rfl, hl, _⟩ := h
    simp [hl]
  · obtain ⟨p, dx, us, rfl, hl, hp, q⟩ := h
    match us, hl with
    | [u1, u2], _ =>
    refine ⟨_, pss_cons (ps_fld (pv 0) (pv 1) rfl) (pss_one (ps_fld (pv 0) (pv 2) rfl)), ?_⟩
    refine ⟨_, rfl, _, rfl, p, C, dx, _, rfl, hp, D.cl, D.n1, (by show 0 < 1000; decide), ?_⟩
    refine ⟨_, rfl, _, rfl, p, C, dx, _, rfl, upd_same, D.cl, D.n2, (by show 1 < 1000; decide), ?_⟩
    refine q _ _ upd_same (fun i n u hn hu => ?_) (fun b o hb hne => ?_)
    · match i, hn, hu with
      | 0, hn, hu => cases hn; cases hu; rfl
      | 1, hn, hu => cases hn; cases hu; rfl
    · rw [upd_ne hne, upd_ne hne]; exact hb
def intsV (l : List Nat) : List V := l.map fun (n : Nat) => V.int (n : Int)
def isStr (C2 : Addr) (S : Plan) (w : List St2) (v : V) (H : Hp) : Prop := ∃ (a dx : Addr) (fs : List (Str × V)) (la lp : Addr), v = .ref a ∧ H a = some (.ins C2 dx fs) ∧ fs.lookup ("leads" : Str) = some (.ref la) ∧ fs.lookup ("points" : Str) = some (.ref lp) ∧
  H la = some (.lst (intsV (w.map (·.2)))) ∧ H lp = some (.lst (intsV (GlaLead.rowPts S w)))
theorem isStr.mono {S : Plan} {ws : List St2} {v : V} {H H' : Hp} (e : Ex H H') (h : isStr C2 S ws v H) : isStr C2 S ws v H' := by
  obtain ⟨a, dx, fs, la, lp, h1, h2, h3, h4, h5, h6⟩ := h
  exact ⟨a, dx, fs, la, lp, h1, e _ _ h2, h3, h4, e _ _ h5, e _ _ h6⟩
/-! ### a way, walked -/
def mw (s : LeadShop) (S : Plan) (lead : Nat) : Nat → Nat → Nat → List St2
  | 0, _, _ => []
  | n + 1, v, i => (v, i) :: (match jn s S i (GlaLead.other S i v) with
    | none => []
    | some j => if j = lead then [] else mw s S lead n (GlaLead.other S i v) j)
def contO (s : LeadShop) (S : Plan) (lead m u : Nat) : Option Nat → List St2
  | none => []
  | some j => if j = lead then [] else mw s S lead m u j
def cont (s : LeadShop) (S : Plan) (lead m : Nat) (x : St2) : List St2 := contO s S lead m (GlaLead.other S x.2 x.1) (jn s S x.2 (GlaLead.other S x.2 x.1))
theorem mw_cont (s : LeadShop) (S : Plan) (lead m : Nat) (x : St2) : mw s S lead (m + 1) x.1 x.2 = x :: cont s S lead m x := by
  rw [mw, cont]
  cases jn s S x.2 (GlaLead.other S x.2 x.1) <;> rfl
def wayAt (s : LeadShop) (S : Plan) (v i : Nat) : List St2 := mw s S i (2 * S.lines.length + 2) v i
theorem rowPts_range (S : Plan) (f : Nat → St2) (n : Nat) : GlaLead.rowPts S ((List.range (n + 1)).map f) = ((List.range (n + 1)).map f).map (·.1) ++ [GlaLead.other S (f n).2 (f n).1] := by
  rw [GlaLead.rowPts]
  congr 1
  rw [List.range_succ, List.map_append, List.map_singleton, List.getLast?_concat]
theorem path_len {s : LeadShop} {S : Plan} (lt : ∀ m ∈ S.lines, m.1 < m.2) {f : Nat → St2} {n : Nat} (p : Path s S f n) (no : ∀ k, 0 < k → k ≤ n → (f k).2 ≠ (f 0).2) : n + 1 ≤ 2 * S.lines.length := by
  have nd : ((List.range (n + 1)).map fun k => ((f k).2, (f k).1)).Nodup := by
    refine Geo.nodup_range_map fun i j h1 h2 z => ?_
    exact p.nodup lt no i j h1 (by omega) (Prod.ext (congrArg Prod.snd z) (congrArg Prod.fst z))
  have := Geo.sub_len (m := endsList S) nd (fun z hz => by
    obtain ⟨k, hk, rfl⟩ := List.mem_map.1 hz
    have he := p.end_ k (by have := List.mem_range.1 hk; omega)
    refine List.mem_flatMap.2 ⟨(f k).2, List.mem_range.2 he.1, ?_⟩
    rcases he.2 with q | q
    · rw [← q]; exact List.mem_cons_self
    · rw [← q]; exact List.mem_cons_of_mem _ List.mem_cons_self)
  rw [ends_len] at this
  simpa using this
def ext (f : Nat → St2) (n : Nat) (y : St2) : Nat → St2 := fun k => if k ≤ n then f k else y
theorem Path.ext {s : LeadShop} {S : Plan} {f : Nat → St2} {n : Nat} (p : Path s S f n) {y : St2} (h : nxt s S (f n) = some y) : Path s S (ext f n y) (n + 1) := by
  refine ⟨by show isEnd S (if 0 ≤ n then f 0 else y).2 (if 0 ≤ n then f 0 else y).1; rw [if_pos (Nat.zero_le _)]; exact p.e0, fun k hk => ?_⟩
  show nxt s S (if k ≤ n then f k else y) = some (if k + 1 ≤ n then f (k + 1) else y)
  rw [if_pos (by omega)]
  by_cases q : k + 1 ≤ n
  · rw [if_pos q]; exact p.step k (by omega)
  · rw [if_neg q, show k = n by omega]; exact h
theorem ext_range (f : Nat → St2) (n : Nat) (y : St2) : (List.range (n + 1 + 1)).map (ext f n y) = (List.range (n + 1)).map f ++ [y] := by
  rw [List.range_succ, List.map_append]
  congr 1
  · apply List.map_congr_left
    intro k hk
    have := List.mem_range.1 hk
    show (if k ≤ n then f k else y) = f k
    rw [if_pos (by omega)]
  · show [if n + 1 ≤ n then f (n + 1) else y] = [y]
    rw [if_neg (by omega)]
theorem ev_dget1U {σ : L2.St} {H : Hp} {ty td : TE} {g : Addr} {f : Nat × Nat → Option V} {p : Nat × Nat} (hy : EvU ty σ H [.int (p.1 : Int), .int (p.2 : Int)]) (hd : Ev td σ H (.ref g)) (h : isDT H g f) : Ev (tDGet1 td ty) σ H ((f p).getD .non) := fun H1 e1 Q q =>
  hd H1 e1 _ fun H2 e2 => by
    have e02 := e1.trans e2
    obtain ⟨kvs, hk, _⟩ := id (h.mono e02)
    refine ⟨g, rfl, .inr ⟨kvs, .inl hk⟩, hy H2 e02 _ fun b H3 _ e3 hb => ⟨f p, (h.mono (e02.trans e3)).get hb, q H3 (e2.trans e3)⟩⟩
theorem onP_get (o : Option Nat) : (onP o).getD .non = opV o := by cases o <;> rfl
end
end Hl
end PHl26

section PHl27
set_option Elab.async false
set_option linter.all false
set_option maxRecDepth 100000
set_option maxHeartbeats 4000000
local macro_rules | `(tactic| walk_at "ev") => `(tactic| (first
  | exact Evl.ev_c
  | exact Evl.ev_var rfl
  | (apply Hl.ev_I0 <;> walk_at "ev")
  | (apply Hl.ev_I <;> walk_at "ev")
  | (apply Hl.ev_ixT <;> walk_at "ev")
  | (apply Hl.ev_ixL <;> walk_at "ev")
  | exact Evl.ea_nil
  | (apply Evl.ea_cons <;> walk_at "ev")
  | (apply Hl.ev_callV <;> first | assumption | walk_at "ev")
  | (apply Hl.ev_eq <;> walk_at "ev")
  | (apply Hl.ev_ne <;> walk_at "ev")
  | (apply Hl.ev_fld <;> first | assumption | walk_at "ev")
  | (apply Hl.ev_lenL <;> first | assumption | walk_at "ev")
  | (apply Hl.ev_chain <;> first | (refine fun (_ : _ = _) => ?_; walk_at "ev") | walk_at "ev")
  | (apply Evl.ev_orV <;> first | (refine fun (_ : _ = _) => ?_; walk_at "ev") | walk_at "ev")
  | (apply Evl.ev_andV <;> first | (refine fun (_ : _ = _) => ?_; walk_at "ev") | walk_at "ev")
  | (apply Evl.ev_notV <;> walk_at "ev")
  | (apply Evl.et_test <;> walk_at "ev")
  | (apply Evl.et_B <;> walk_at "ev")
  | (apply Evl.et_not <;> walk_at "ev")
  | (apply Evl.et_and <;> first | (refine fun (_ : _ = _) => ?_; walk_at "ev") | walk_at "ev")
  | (apply Evl.et_or <;> first | (refine fun (_ : _ = _) => ?_; walk_at "ev") | walk_at "ev")
  | assumption
  | (exact Evl.st_of (by assumption))
  | exact rfl
  | skip))

namespace Hl
open PySem PySem.Spec PyProof.Rows L2 Evl
open GlaPlan (Pt Plan)
open GlaLead (LeadShop)
theorem atI_lastN (l : List Nat) (x : Nat) : atI (intsV (l ++ [x])) (-1) = some (.int (x : Int)) := by
  refine atI_last ?_ (by simp [intsV])
  simp [intsV]
section
variable {P : Program} {w : World} {K : PySem.W.Frag} {mg : Str → Option Value} {base : Heap} {C C2 : Addr}
def Awk (K : PySem.W.Frag) (C C2 : Addr) : List V → Hp → (V → Hp → Prop) → Prop := fun vs H R => ∃ (x : V) (g : Addr) (S : Plan) (s : LeadShop) (i v : Nat), vs = [x, .ref g, .int (i : Int), .int (v : Int)] ∧ isDr K C S x H ∧ isDT H g (fJ s S S.pts.length) ∧ GN S ∧ S.lines.length ≤ 8192 ∧ isEnd S i v ∧ R = isStr C2 S (wayAt s S v i)
theorem Awk.mono : Mono (Awk K C C2) := fun vs H H' v e ⟨x, g, S, s, i, u, h, h1, h2, h3⟩ => ⟨x, g, S, s, i, u, h, h1.mono e, h2.mono e, h3⟩
abbrev s_walked : Stmt := topS 38
abbrev N_walked : List Str := ["drawing", "joined", "lead", "start", "leads", "points", "following"]
theorem sc_walked : FnScope N_walked ["drawing", "joined", "lead", "start"] (defScope s_walked) := ⟨rfl, rfl, rfl, by decide +kernel, rfl, by decide +kernel, by decide +kernel⟩
theorem k_walked (D : DrC K C) (F : Dfn K mg "walked" s_walked ["drawing", "joined", "lead", "start"]) (c_other_end : Cal P w K mg base 1 "other_end" (spV (Apn K fun l p => .int (otherOf l p : Nat)))) (c_Strip : Mak P w K mg base 1 "Strip" C2 snames) :
    Cal P w K mg base 3 "walked" (spR (Awk K C C2)) := by
  refine mk_R F sc_walked (fun vs H v h => by obtain ⟨_, _, _, _, _, _, rfl, _⟩ := h; rfl) (fun f cdv A' outer s0 H vs E v0 hr a => ?_)
  obtain ⟨x, g, S, s, ld, st, rfl, id, dg, gn, nl, he, rfl⟩ := a
  obtain ⟨a, dx, fs, vp, vl, vm, rfl, h2, f1, f2, f3, f4, f5, ip, ⟨ll, ul, rfl, hl, il⟩, im⟩ := id
  have cl := D.cl
  have n4 := D.n4
  have lt := gn.lt
  have m1 : Mono (Apn K fun l p => .int (otherOf l p : Nat)) := Apn.mono
  have lineA : ∀ i, i < S.lines.length → ∃ lv, atI ul (i : Int) = some lv ∧ isPr K (GlaLead.lineOf S i) lv H := fun i hi => by
    obtain ⟨lv, hlv, il2⟩ := il.2 i _ (lineOf_get hi)
    exact ⟨lv, atI_nat hlv, il2⟩
  obtain ⟨lv0, hlv0, il0⟩ := lineA ld he.1
  refine ⟨_, (pss_cons (ps_set (i := 4) sc_walked.nd rfl (Or.inl rfl) (pe_lst (pa_cons (pv 2) pa_nil)))
      (pss_cons (ps_set (i := 5) sc_walked.nd rfl (Or.inl rfl) (pe_lst (pa_cons (pv 3) (pa_cons (pe_c c_other_end hr (by decide) (by rfl) (pa_cons (pe_ix ix_list (pe_fld (pv 0) rfl) (pv 2) (fun _ _ => rfl)) (pa_cons (pv 3) pa_nil))) pa_nil))))
      (pss_cons (ps_set (i := 6) sc_walked.nd rfl (Or.inl rfl) (pe_dget1 (hu_of hr) (pv 1) (pe_tup (pa_cons (pv 2) (pa_cons (pe_ix ix_list (pv 5) (pe_un un_neg pe_int) (fun _ _ => rfl)) pa_nil))) ⟨rfl, rfl, rfl, rfl⟩))
      (pss_cons (ps_while PassesOwn.never (PW.pt (pw_and (pt_cmpR op_notN (pv 6) pe_non (nomark _)) (pw_and1 (pt_cmpR op_ne (pv 6) (pv 2) (nomark _))))) (pss_cons (ps_expr (pe_bm PySem.F.plainAttrs_list PySem.F.slot_list_append PySem.F.type_list_append mt_append (pv 4) (pa_cons (pv 6) pa_nil)))
      (pss_cons (ps_expr (pe_bm PySem.F.plainAttrs_list PySem.F.slot_list_append PySem.F.type_list_append mt_append (pv 5) (pa_cons (pe_c c_other_end hr (by decide) (by rfl) (pa_cons (pe_ix ix_list (pe_fld (pv 0) rfl) (pv 6) (fun _ _ => rfl)) (pa_cons (pe_ix ix_list (pv 5) (pe_un un_neg pe_int) (fun _ _ => rfl)) pa_nil))) pa_nil)))
      (pss_one (ps_set (i := 6) sc_walked.nd rfl (Or.inl rfl) (pe_dget1 (hu_of hr) (pv 1) (pe_tup (pa_cons (pv 6) (pa_cons (pe_ix ix_list (pv 5) (pe_un un_neg pe_int) (fun _ _ => rfl)) pa_nil))) ⟨rfl, rfl, rfl, rfl⟩))))))
      (pss_one (ps_ret (pe_mk c_Strip hr (by decide) (by rfl) (pa_cons (pv 4) (pa_cons (pv 5) pa_nil))))))))), fun Q kq => ?_⟩
  apply q_asgL (xs := intsV [ld])
  · exact el_lst (ea_cons (ev_var rfl) ea_nil) (by show 1 ≤ 100000; decide)
  intro la H1 hla1 e1 hla
  have h21 := e1 _ _ h2
  have hl1 := ex_l e1 hl
  have a1 : Apn K (fun l p => .int (otherOf l p : Nat)) [lv0, .int (st : Int)] H1 (.int (GlaLead.other S ld st : Nat)) := ⟨lv0, _, st, rfl, il0.mono e1, rfl⟩
  apply q_asgL (xs := intsV [st, GlaLead.other S ld st])
  · refine el_lst ?_ (by show 2 ≤ 100000; decide)
    refine ea_cons (ev_var rfl) (ea_cons ?_ ea_nil)
    walk_at "ev"
  intro lp H2 hlp2 e2 hlp
  have e02 := e1.trans e2
  have hla2 := e2 _ _ hla
  have nla : lp ≠ la := fun z => by rw [z, hla] at hlp2; cases hlp2
  have hHla : H la = none := hla1
  have hHlp : H lp = none := fresh_back e1 hlp2
  apply q_asg (v := opV (jn s S ld (GlaLead.other S ld st)))
  · rw [← onP_get, ← fJ_jn s S (ld, GlaLead.other S ld st)]
    refine ev_dget1U (p := (ld, GlaLead.other S ld st)) (eu_tup (ea_cons (ev_var rfl) (ea_cons ?_ ea_nil)) (by simp)) (ev_var rfl) (dg.mono e02)
    exact ev_ixL (ev_var rfl) (ev_un ev_c ru_neg) (sq_of hlp) (atI_lastN [st] (GlaLead.other S ld st))
  · intro H3 e3
    refine q_while (fun m σ' H' => ∃ (f : Nat → St2) (n : Nat), m = 2 * S.lines.length - n ∧ Path s S f n ∧ f 0 = (st, ld) ∧ (∀ k, 0 < k → k ≤ n → (f k).2 ≠ (f 0).2) ∧ Ex H H' ∧ H' la = some (.lst (intsV (((List.range (n + 1)).map f).map (·.2)))) ∧
      H' lp = some (.lst (intsV (((List.range (n + 1)).map f).map (·.1) ++ [GlaLead.other S (f n).2 (f n).1]))) ∧ wayAt s S st ld = (List.range (n + 1)).map f ++ cont s S ld (2 * S.lines.length + 1 - n) (f n) ∧
      σ' = [some (.ref a), some (.ref g), some (.int (ld : Int)), some (.int (st : Int)), some (.ref la), some (.ref lp), some (opV (jn s S (f n).2 (GlaLead.other S (f n).2 (f n).1)))]) (2 * S.lines.length) ?_ ?_
    · exact ⟨fun _ => (st, ld), 0, rfl, ⟨he, fun k hk => absurd hk (Nat.not_lt_zero k)⟩, rfl, fun k h1 h2 => absurd h1 (by omega), e02.trans e3, e3 _ _ hla2, e3 _ _ hlp, mw_cont s S ld (2 * S.lines.length + 1) (st, ld), rfl⟩
    · rintro m σ' H4 ⟨f, n, rfl, pf, hf0, hno, e4, hA, hB, hW, rfl⟩
      have hpl := path_len lt pf hno
      have hen := pf.end_ n (Nat.le_refl n)
      generalize ho : jn s S (f n).2 (GlaLead.other S (f n).2 (f n).1) = o at *
      have hC : cont s S ld (2 * S.lines.length + 1 - n) (f n) = contO s S ld (2 * S.lines.length + 1 - n) (GlaLead.other S (f n).2 (f n).1) o := by rw [cont, ho]
      rw [hC] at hW
      -- the end
      have fin : (wayAt s S st ld = (List.range (n + 1)).map f) → ∀ H5, Ex H4 H5 → (tRet (tMake C2 (spI C2 snames) [] E0 (tCons (tVar 4) (tCons (tVar 5) tNil)))) { nx := fun _ H' => Q .non H', rt := Q } [some (.ref a), some (.ref g), some (.int (ld : Int)), some (.int (st : Int)), some (.ref la), some (.ref lp), some (opV o)] H5 := by
        intro hw H5 e5
        apply s_retR
        · refine er_make (ns := snames) (A := fun us H' => us = [.ref la, .ref lp] ∧ Ex H5 H') (fun us H H' e h => ⟨h.1, h.2.trans e⟩) (fun us H h => by rw [h.1]; rfl) ?_
          intro H6 e6 Q' q'
          refine (?_ : EvA _ _ H5 [.ref la, .ref lp]) H6 e6 Q' fun H7 e7 => q' _ H7 e7 ⟨rfl, e6.trans e7⟩
          exact ea_cons (ev_var rfl) (ea_cons (ev_var rfl) ea_nil)
        · rintro v H6 e6 ⟨b, dx, fs, us, rfl, hb, hfs, rfl, _⟩
          refine kq _ H6 ((e4.trans e5).trans e6) ⟨b, dx, fs, la, lp, rfl, hb, hfs 0 _ _ rfl rfl, hfs 1 _ _ rfl rfl, ?_, ?_⟩
          · rw [hw]; exact (e5.trans e6) _ _ hA
          · rw [hw, rowPts_range]; exact (e5.trans e6) _ _ hB
      cases o with
      | none =>
        refine ⟨false, ?_, fun z => (nomatch z), fun _ H5 e5 => fin (by rw [hW]; exact List.append_nil _) H5 e5⟩
        refine et_is (a := false && false) (et_and (et_test fun H5 e5 Q q => ⟨.non, rfl, rfl, q H5 (Ex.refl H5)⟩) fun z => (nomatch z)) rfl
      | some j =>
        have hn4 : nxt s S (f n) = some (GlaLead.other S (f n).2 (f n).1, j) := by rw [nxt, ho]; rfl
        have hej := nxt_end hn4
        refine ⟨!decide (j = ld), ?_, ?_, ?_⟩
        · refine et_is (a := true && !decide (V.int (j : Int) = .int (ld : Int))) (et_and (et_test fun H5 e5 Q q => ⟨.int j, rfl, rfl, q H5 (Ex.refl H5)⟩) fun _ => ?_) (by rw [Bool.true_and, Bool.eq_iff_iff]; simp; omega)
          exact et_test (ev_ne (ev_var rfl) (ev_var rfl) rfl)
        · intro hb H5 e5
          have hjl : j ≠ ld := by simpa using hb
          rw [contO, if_neg hjl] at hW
          obtain ⟨lvj, hlvj, ilj⟩ := lineA j hej.1
          refine ⟨fun σ2 H2 => ∃ m', m' < 2 * S.lines.length - n ∧ ∃ (f : Nat → St2) (n : Nat), m' = 2 * S.lines.length - n ∧ Path s S f n ∧ f 0 = (st, ld) ∧ (∀ k, 0 < k → k ≤ n → (f k).2 ≠ (f 0).2) ∧ Ex H H2 ∧ H2 la = some (.lst (intsV (((List.range (n + 1)).map f).map (·.2)))) ∧
            H2 lp = some (.lst (intsV (((List.range (n + 1)).map f).map (·.1) ++ [GlaLead.other S (f n).2 (f n).1]))) ∧ wayAt s S st ld = (List.range (n + 1)).map f ++ cont s S ld (2 * S.lines.length + 1 - n) (f n) ∧
            σ2 = [some (.ref a), some (.ref g), some (.int (ld : Int)), some (.int (st : Int)), some (.ref la), some (.ref lp), some (opV (jn s S (f n).2 (GlaLead.other S (f n).2 (f n).1)))], fun σ2 H2 h => h, ?_⟩
          have e05 := e4.trans e5
          refine q_app (l := la) (v := .int (j : Int)) (e5 _ _ hA) (ev_var rfl) (ev_var rfl) (by simp [intsV]; omega) ?_
          intro H6 e6
          have x6 : Ex H (upd H6 la (.lst (intsV (((List.range (n + 1)).map f).map (·.2)) ++ [V.int (j : Int)]))) := Ex.mut (e05.trans e6) hHla
          have hA6 : (upd H6 la (.lst (intsV (((List.range (n + 1)).map f).map (·.2)) ++ [V.int (j : Int)]))) la = some (.lst (intsV (((List.range (n + 1)).map f).map (·.2)) ++ [V.int (j : Int)])) := upd_same
          have hB6 : (upd H6 la (.lst (intsV (((List.range (n + 1)).map f).map (·.2)) ++ [V.int (j : Int)]))) lp = some (.lst (intsV (((List.range (n + 1)).map f).map (·.1) ++ [GlaLead.other S (f n).2 (f n).1]))) := by
            rw [upd_ne nla]; exact (e5.trans e6) _ _ hB
          generalize (upd H6 la (.lst (intsV (((List.range (n + 1)).map f).map (·.2)) ++ [V.int (j : Int)]))) = H7 at *
          have h27 := x6 _ _ h2
          have hl7 := ex_l x6 hl
          have a2 : Apn K (fun l p => .int (otherOf l p : Nat)) [lvj, .int (GlaLead.other S (f n).2 (f n).1 : Nat)] H7 (.int (GlaLead.other S j (GlaLead.other S (f n).2 (f n).1) : Nat)) := ⟨lvj, _, _, rfl, ilj.mono x6, rfl⟩
          have hBs : SqL K H7 lp (intsV (((List.range (n + 1)).map f).map (·.1) ++ [GlaLead.other S (f n).2 (f n).1])) := sq_of hB6
          have hat := atI_lastN (((List.range (n + 1)).map f).map (·.1)) (GlaLead.other S (f n).2 (f n).1)
          refine q_app (l := lp) (v := .int (GlaLead.other S j (GlaLead.other S (f n).2 (f n).1) : Nat)) hB6 (ev_var rfl) ?_ (by simp [intsV]; omega) ?_
          · refine ev_callV m1 (ea_cons ?_ (ea_cons ?_ ea_nil)) a2
            · walk_at "ev"
            · exact ev_ixL (ev_var rfl) (ev_un ev_c ru_neg) hBs hat
          · intro H8 e8
            have x8 : Ex H (upd H8 lp (.lst (intsV (((List.range (n + 1)).map f).map (·.1) ++ [GlaLead.other S (f n).2 (f n).1]) ++ [V.int (GlaLead.other S j (GlaLead.other S (f n).2 (f n).1) : Nat)]))) := Ex.mut (x6.trans e8) hHlp
            have hA8 : (upd H8 lp (.lst (intsV (((List.range (n + 1)).map f).map (·.1) ++ [GlaLead.other S (f n).2 (f n).1]) ++ [V.int (GlaLead.other S j (GlaLead.other S (f n).2 (f n).1) : Nat)]))) la = some (.lst (intsV (((List.range (n + 1)).map f).map (·.2)) ++ [V.int (j : Int)])) := by
              rw [upd_ne (Ne.symm nla)]; exact e8 _ _ hA6
            have eB : intsV (((List.range (n + 1)).map f).map (·.1) ++ [GlaLead.other S (f n).2 (f n).1]) ++ [V.int (GlaLead.other S j (GlaLead.other S (f n).2 (f n).1) : Nat)] = intsV ((((List.range (n + 1)).map f).map (·.1) ++ [GlaLead.other S (f n).2 (f n).1]) ++ [GlaLead.other S j (GlaLead.other S (f n).2 (f n).1)]) := by simp [intsV]
            have hB8 : (upd H8 lp (.lst (intsV (((List.range (n + 1)).map f).map (·.1) ++ [GlaLead.other S (f n).2 (f n).1]) ++ [V.int (GlaLead.other S j (GlaLead.other S (f n).2 (f n).1) : Nat)]))) lp = some (.lst (intsV ((((List.range (n + 1)).map f).map (·.1) ++ [GlaLead.other S (f n).2 (f n).1]) ++ [GlaLead.other S j (GlaLead.other S (f n).2 (f n).1)]))) := by
              rw [← eB]; exact upd_same
            generalize (upd H8 lp (.lst (intsV (((List.range (n + 1)).map f).map (·.1) ++ [GlaLead.other S (f n).2 (f n).1]) ++ [V.int (GlaLead.other S j (GlaLead.other S (f n).2 (f n).1) : Nat)]))) = H9 at *
            apply s_asg (v := opV (jn s S j (GlaLead.other S j (GlaLead.other S (f n).2 (f n).1))))
            · refine ev_is (ev_dget1U (p := (j, GlaLead.other S j (GlaLead.other S (f n).2 (f n).1))) (eu_tup (ea_cons (ev_var rfl) (ea_cons ?_ ea_nil)) (by simp)) (ev_var rfl) (dg.mono x8)) (by rw [fJ_jn]; exact onP_get _)
              exact ev_ixL (ev_var rfl) (ev_un ev_c ru_neg) (sq_of hB8) (atI_lastN _ _)
            · intro H10 e10
              generalize hu : GlaLead.other S (f n).2 (f n).1 = u at *
              have no0 : ∀ k, 0 < k → k ≤ n + 1 → (ext f n (u, j) k).2 ≠ (ext f n (u, j) 0).2 := by
                intro k h1 h2
                have e0 : ext f n (u, j) 0 = f 0 := by show (if 0 ≤ n then f 0 else _) = f 0; rw [if_pos (Nat.zero_le _)]
                rw [e0]
                show (if k ≤ n then f k else (u, j)).2 ≠ _
                by_cases q : k ≤ n
                · rw [if_pos q]; exact hno k h1 q
                · rw [if_neg q, hf0]; exact hjl
              have hlast : ext f n (u, j) (n + 1) = (u, j) := by show (if n + 1 ≤ n then _ else (u, j)) = _; rw [if_neg (by omega)]
              have hpl2 := path_len lt (pf.ext hn4) no0
              refine ⟨2 * S.lines.length - (n + 1), by omega, ext f n (u, j), n + 1, rfl, pf.ext hn4, ?_, no0, x8.trans e10, ?_, ?_, ?_, ?_⟩
              · show (if 0 ≤ n then f 0 else _) = _; rw [if_pos (Nat.zero_le _)]; exact hf0
              · rw [ext_range, e10 _ _ hA8]; simp [intsV]
              · rw [ext_range, hlast, e10 _ _ hB8, List.map_append]; rfl
              · rw [ext_range, hlast, hW, List.append_assoc]
                congr 1
                rw [show 2 * S.lines.length + 1 - n = (2 * S.lines.length + 1 - (n + 1)) + 1 by omega]
                exact mw_cont s S ld _ (u, j)
              · rw [hlast]; rfl
        · intro hb H5 e5
          have hjl : j = ld := by simpa using hb
          exact fin (by rw [hW, contO, if_pos hjl, List.append_nil]) H5 e5
end
end Hl
end PHl27

section PHl28
set_option Elab.async false
set_option linter.all false
set_option maxRecDepth 100000
set_option maxHeartbeats 4000000
local macro_rules | `(tactic| walk_at "ev") => `(tactic| (first
  | exact Evl.ev_c
  | exact Evl.ev_var rfl
  | (apply Hl.ev_I0 <;> walk_at "ev")
  | (apply Hl.ev_I <;> walk_at "ev")
  | (apply Hl.ev_ixT <;> walk_at "ev")
  | (apply Hl.ev_ixL <;> walk_at "ev")
  | exact Evl.ea_nil
  | (apply Evl.ea_cons <;> walk_at "ev")
  | (apply Hl.ev_callV <;> first | assumption | walk_at "ev")
  | (apply Hl.ev_eq <;> walk_at "ev")
  | (apply Hl.ev_ne <;> walk_at "ev")
  | (apply Hl.ev_fld <;> first | assumption | walk_at "ev")
  | (apply Hl.ev_lenL <;> first | assumption | walk_at "ev")
  | (apply Hl.ev_chain <;> first | (refine fun (_ : _ = _) => ?_; walk_at "ev") | walk_at "ev")
  | (apply Evl.ev_orV <;> first | (refine fun (_ : _ = _) => ?_; walk_at "ev") | walk_at "ev")
  | (apply Evl.ev_andV <;> first | (refine fun (_ : _ = _) => ?_; walk_at "ev") | walk_at "ev")
  | (apply Evl.ev_notV <;> walk_at "ev")
  | (apply Evl.et_test <;> walk_at "ev")
  | (apply Evl.et_B <;> walk_at "ev")
  | (apply Evl.et_not <;> walk_at "ev")
  | (apply Evl.et_and <;> first | (refine fun (_ : _ = _) => ?_; walk_at "ev") | walk_at "ev")
  | (apply Evl.et_or <;> first | (refine fun (_ : _ = _) => ?_; walk_at "ev") | walk_at "ev")
  | assumption
  | (exact Evl.st_of (by assumption))
  | exact rfl
  | skip))

namespace Hl
open PySem PySem.Spec PyProof.Rows L2 Evl
open GlaPlan (Pt Plan)
open GlaLead (LeadShop)
def lastOf (w : List St2) : St2 := w.getLast?.getD (0, 0)
def endOf (S : Plan) (w : List St2) : Nat := GlaLead.other S (lastOf w).2 (lastOf w).1
def before2 (e2 l2 e l : Nat) : Bool := decide (e2 < e) || (decide (e2 = e) && decide (l2 < l))
def sol3 (s : LeadShop) (S : Plan) (back : List St2) (e l : Nat) (y : St2) : List St2 := if before2 (GlaLead.other S y.2 y.1) y.2 e l = true then wayAt s S (GlaLead.other S y.2 y.1) y.2 else back
def sol2 (s : LeadShop) (S : Plan) (there : List St2) (z : St2) : List St2 := if (jn s S z.2 (GlaLead.other S z.2 z.1)).isSome = true then there else
  sol3 s S (wayAt s S (GlaLead.other S z.2 z.1) z.2) (GlaLead.other S z.2 z.1) z.2 (lastOf (wayAt s S (GlaLead.other S z.2 z.1) z.2))
def solOf (s : LeadShop) (S : Plan) (lead : Nat) : List St2 := sol2 s S (wayAt s S (GlaLead.lineOf S lead).1 lead) (lastOf (wayAt s S (GlaLead.lineOf S lead).1 lead))
theorem mw_end {s : LeadShop} {S : Plan} (lt : ∀ m ∈ S.lines, m.1 < m.2) (lead : Nat) : ∀ (n v i : Nat), isEnd S i v → ∀ x ∈ mw s S lead n v i, isEnd S x.2 x.1
  | 0, v, i, h, x, hx => nomatch hx
  | n + 1, v, i, h, x, hx => by
    have e : mw s S lead (n + 1) v i = (v, i) :: cont s S lead n (v, i) := mw_cont s S lead n (v, i)
    rw [e] at hx
    rcases List.mem_cons.1 hx with q | q
    · rw [q]; exact h
    · rw [cont] at q
      cases hj : jn s S i (GlaLead.other S i v) with
      | none => simp only [hj, contO] at q; cases q
      | some j =>
        simp only [hj, contO] at q
        split at q
        · cases q
        · exact mw_end lt lead n _ j (jn_end hj).2 x q
theorem way_cons (s : LeadShop) (S : Plan) (v i : Nat) : wayAt s S v i = (v, i) :: cont s S i (2 * S.lines.length + 1) (v, i) := mw_cont s S i (2 * S.lines.length + 1) (v, i)
theorem way_snoc (s : LeadShop) (S : Plan) (v i : Nat) : ∃ w0, wayAt s S v i = w0 ++ [lastOf (wayAt s S v i)] := by
  have h : wayAt s S v i ≠ [] := by rw [way_cons]; exact List.cons_ne_nil _ _
  refine ⟨(wayAt s S v i).dropLast, ?_⟩
  rw [lastOf, List.getLast?_eq_some_getLast h]
  exact (List.dropLast_concat_getLast h).symm
theorem way_last {s : LeadShop} {S : Plan} (lt : ∀ m ∈ S.lines, m.1 < m.2) {v i : Nat} (h : isEnd S i v) : isEnd S (lastOf (wayAt s S v i)).2 (lastOf (wayAt s S v i)).1 := by
  obtain ⟨w0, hw⟩ := way_snoc s S v i
  refine mw_end (s := s) lt i (2 * S.lines.length + 2) v i h _ ?_
  show _ ∈ wayAt s S v i
  generalize lastOf (wayAt s S v i) = z at *
  rw [hw]; exact List.mem_append_right _ (List.mem_singleton.2 rfl)
theorem atI_way2 {w0 w : List St2} {z : St2} (h : w = w0 ++ [z]) : atI (intsV (w.map (·.2))) (-1) = some (.int (z.2 : Int)) := by
  rw [h, List.map_append]; exact atI_lastN _ _
theorem atI_wayP {S : Plan} {w0 w : List St2} {z : St2} (h : w = w0 ++ [z]) : atI (intsV (GlaLead.rowPts S w)) (-1) = some (.int (GlaLead.other S z.2 z.1 : Nat)) := by
  rw [GlaLead.rowPts, h, List.getLast?_concat]; exact atI_lastN _ _
section
variable {P : Program} {w : World} {K : PySem.W.Frag} {mg : Str → Option Value} {base : Heap} {C C2 : Addr}
def Asl (K : PySem.W.Frag) (C C2 : Addr) : List V → Hp → (V → Hp → Prop) → Prop := fun vs H R => ∃ (x : V) (g : Addr) (S : Plan) (s : LeadShop) (i : Nat), vs = [x, .ref g, .int (i : Int)] ∧ isDr K C S x H ∧ isDT H g (fJ s S S.pts.length) ∧ GN S ∧ S.lines.length ≤ 8192 ∧ i < S.lines.length ∧ R = isStr C2 S (solOf s S i)
theorem Asl.mono : Mono (Asl K C C2) := fun vs H H' v e ⟨x, g, S, s, i, h, h1, h2, h3⟩ => ⟨x, g, S, s, i, h, h1.mono e, h2.mono e, h3⟩
abbrev s_strip_of_least : Stmt := topS 39
abbrev N_strip_of_least : List Str := ["drawing", "joined", "lead", "there", "last", "end", "back"]
theorem sc_strip_of_least : FnScope N_strip_of_least ["drawing", "joined", "lead"] (defScope s_strip_of_least) := ⟨rfl, rfl, rfl, by decide +kernel, rfl, by decide +kernel, by decide +kernel⟩
theorem k_strip_of_least (D : DrC K C) (D2 : StC K C2) (F : Dfn K mg "strip_of_least" s_strip_of_least ["drawing", "joined", "lead"]) (c_walked : Cal P w K mg base 3 "walked" (spR (Awk K C C2))) : Cal P w K mg base 4 "strip_of_least" (spR (Asl K C C2)) := by
  refine mk_R F sc_strip_of_least (fun vs H v h => by obtain ⟨_, _, _, _, _, rfl, _⟩ := h; rfl) (fun f cdv A' outer s0 H vs E v0 hr a => ?_)
  obtain ⟨x, g, S, s, ld, rfl, id, dg, gn, nl, hld, rfl⟩ := a
  have id0 := id
  obtain ⟨a, dx, fs, vp, vl, vm, rfl, h2, f1, f2, f3, f4, f5, ip, ⟨ll, ul, rfl, hl, il⟩, im⟩ := id
  have cl := D.cl
  have n4 := D.n4
  have lt := gn.lt
  have cl2 := D2.cl
  have m1 := D2.n1
  have m2 := D2.n2
  obtain ⟨lv, hlv, ⟨al, rfl, hal⟩⟩ := il.2 ld _ (lineOf_get hld)
  have hlv' := atI_nat hlv
  have he : isEnd S ld (GlaLead.lineOf S ld).1 := ⟨hld, .inl rfl⟩
  obtain ⟨w0, hw0⟩ := way_snoc s S (GlaLead.lineOf S ld).1 ld
  have hwl := way_last (s := s) lt he
  have hoe := oth_end lt hwl
  have hsol : solOf s S ld = sol2 s S (wayAt s S (GlaLead.lineOf S ld).1 ld) (lastOf (wayAt s S (GlaLead.lineOf S ld).1 ld)) := rfl
  generalize hT : wayAt s S (GlaLead.lineOf S ld).1 ld = there at hsol hw0 hwl hoe
  generalize hz : lastOf there = z at hsol hw0 hwl hoe
  obtain ⟨w1, hw1⟩ := way_snoc s S (GlaLead.other S z.2 z.1) z.2
  have hwl2 := way_last (s := s) lt hoe.1
  have hoe2 := oth_end lt hwl2
  have h3 : (jn s S z.2 (GlaLead.other S z.2 z.1)).isSome = false → solOf s S ld = sol3 s S (wayAt s S (GlaLead.other S z.2 z.1) z.2) (GlaLead.other S z.2 z.1) z.2 (lastOf (wayAt s S (GlaLead.other S z.2 z.1) z.2)) := fun h => by
    rw [hsol, sol2, if_neg (by rw [h]; exact Bool.false_ne_true)]
  generalize hB : wayAt s S (GlaLead.other S z.2 z.1) z.2 = back at h3 hw1 hwl2 hoe2
  generalize hz2 : lastOf back = y at h3 hw1 hwl2 hoe2
  refine ⟨_, (pss_cons (ps_set (i := 3) sc_strip_of_least.nd rfl (Or.inl rfl) (pe_c c_walked hr (by decide) (by rfl) (pa_cons (pv 0) (pa_cons (pv 1) (pa_cons (pv 2) (pa_cons (pe_ix ix_tup (pe_ix ix_list (pe_fld (pv 0) rfl) (pv 2) (fun _ _ => rfl)) pe_int (fun _ _ => rfl)) pa_nil))))))
      (pss_cons (ps_set (i := 4) sc_strip_of_least.nd rfl (Or.inl rfl) (pe_ix ix_list (pe_fld (pv 3) rfl) (pe_un un_neg pe_int) (fun _ _ => rfl)))
      (pss_cons (ps_set (i := 5) sc_strip_of_least.nd rfl (Or.inl rfl) (pe_ix ix_list (pe_fld (pv 3) rfl) (pe_un un_neg pe_int) (fun _ _ => rfl)))
      (pss_cons (ps_if (pt_cmp (pc_din (hu_of hr) (pe_tup (pa_cons (pv 4) (pa_cons (pv 5) pa_nil))) (pv 1)) rfl) (pss_one (ps_ret (pv 3))) pss_nil)
      (pss_cons (ps_set (i := 6) sc_strip_of_least.nd rfl (Or.inl rfl) (pe_c c_walked hr (by decide) (by rfl) (pa_cons (pv 0) (pa_cons (pv 1) (pa_cons (pv 4) (pa_cons (pv 5) pa_nil))))))
      (pss_cons (ps_if (pt_cmpR (op_lt2 hr.units0) (pe_tup (pa_cons (pe_ix ix_list (pe_fld (pv 6) rfl) (pe_un un_neg pe_int) (fun _ _ => rfl)) (pa_cons (pe_ix ix_list (pe_fld (pv 6) rfl) (pe_un un_neg pe_int) (fun _ _ => rfl)) pa_nil))) (pe_tup (pa_cons (pv 5) (pa_cons (pv 4) pa_nil))) (nomark _)) (pss_one (ps_ret (pe_c c_walked hr (by decide) (by rfl) (pa_cons (pv 0) (pa_cons (pv 1) (pa_cons (pe_ix ix_list (pe_fld (pv 6) rfl) (pe_un un_neg pe_int) (fun _ _ => rfl)) (pa_cons (pe_ix ix_list (pe_fld (pv 6) rfl) (pe_un un_neg pe_int) (fun _ _ => rfl)) pa_nil))))))) pss_nil)
      (pss_one (ps_ret (pv 6))))))))), fun Q kq => ?_⟩
  apply q_asgR
  · refine er_callR Awk.mono (vs := [.ref a, .ref g, .int (ld : Int), .int ((GlaLead.lineOf S ld).1 : Int)]) ?_ ⟨.ref a, g, S, s, ld, _, rfl, id0, dg, gn, nl, he, rfl⟩
    walk_at "ev"
  · intro v1 H1 e1 is1
    rw [hT] at is1
    have is1' := is1
    obtain ⟨b1, d1, fs1, la1, lp1, rfl, hb1, k1, k2, hla1, hlp1⟩ := is1
    have at1 := atI_way2 hw0
    have at2 := atI_wayP (S := S) hw0
    have hls1 : SqL K H1 la1 (intsV (there.map (·.2))) := sq_of hla1
    apply q_asg (v := .int (z.2 : Int))
    · refine ev_ixL ?_ (ev_un ev_c ru_neg) hls1 at1
      walk_at "ev"
    · intro H2 e2
      have hb2 := e2 _ _ hb1
      have hlp2 : SqL K H2 lp1 (intsV (GlaLead.rowPts S there)) := sq_of (e2 _ _ hlp1)
      apply q_asg (v := .int (GlaLead.other S z.2 z.1 : Nat))
      · refine ev_ixL ?_ (ev_un ev_c ru_neg) hlp2 at2
        walk_at "ev"
      · intro H3 e3
        have e03 := (e1.trans e2).trans e3
        have dg3 := dg.mono e03
        have hfj : (fJ s S S.pts.length (z.2, GlaLead.other S z.2 z.1)).isSome = (jn s S z.2 (GlaLead.other S z.2 z.1)).isSome := by
          rw [fJ_jn]; cases jn s S z.2 (GlaLead.other S z.2 z.1) <;> rfl
        apply q_when (b := (jn s S z.2 (GlaLead.other S z.2 z.1)).isSome)
        · rw [← hfj]
          exact et_B (ev_dinU (p := (z.2, GlaLead.other S z.2 z.1)) (eu_tup (ea_cons (ev_var rfl) (ea_cons (ev_var rfl) ea_nil)) (by simp)) (ev_var rfl) dg3)
        · intro hb H4 e4
          rw [hsol, sol2, if_pos hb] at kq
          apply s_ret
          · exact ev_var rfl
          · intro H5 e5
            exact kq _ H5 ((e03.trans e4).trans e5) (is1'.mono (((e2.trans e3).trans e4).trans e5))
        · intro hb H4 e4
          rw [h3 hb, sol3] at kq
          have e04 := e03.trans e4
          apply q_asgR
          · exact er_callR Awk.mono (vs := [.ref a, .ref g, .int (z.2 : Int), .int (GlaLead.other S z.2 z.1 : Nat)]) (ea_cons (ev_var rfl) (ea_cons (ev_var rfl) (ea_cons (ev_var rfl) (ea_cons (ev_var rfl) ea_nil)))) ⟨.ref a, g, S, s, z.2, _, rfl, id0.mono e04, dg.mono e04, gn, nl, hoe.1, rfl⟩
          · intro v5 H5 e5 is5
            rw [hB] at is5
            have is5' := is5
            obtain ⟨b5, d5, fs5, la5, lp5, rfl, hb5, k5, k6, hla5, hlp5⟩ := is5
            have e05 := e04.trans e5
            have at5 := atI_way2 hw1
            have at6 := atI_wayP (S := S) hw1
            have evL : ∀ H6 σ', Ex H5 H6 → σ'[6]? = some (some (.ref b5)) → Ev (tOp (rIxL K) (tFld K (tVar 6) ("leads" : Str)) (tUn (rU fun i => .int (-i)) (tC (.int 1)))) σ' H6 (.int (y.2 : Int)) := fun H6 σ' e hs => by
              have hb6 := e _ _ hb5
              refine ev_ixL ?_ (ev_un ev_c ru_neg) (sq_of (e _ _ hla5)) at5
              refine ev_fld (ev_var hs) hb6 cl2 m1 k5
            have evP : ∀ H6 σ', Ex H5 H6 → σ'[6]? = some (some (.ref b5)) → Ev (tOp (rIxL K) (tFld K (tVar 6) ("points" : Str)) (tUn (rU fun i => .int (-i)) (tC (.int 1)))) σ' H6 (.int (GlaLead.other S y.2 y.1 : Nat)) := fun H6 σ' e hs => by
              have hb6 := e _ _ hb5
              refine ev_ixL ?_ (ev_un ev_c ru_neg) (sq_of (e _ _ hlp5)) at6
              refine ev_fld (ev_var hs) hb6 cl2 m2 k6
            apply q_when (b := before2 (GlaLead.other S y.2 y.1) y.2 (GlaLead.other S z.2 z.1) z.2)
            · refine et_is (a := decide ((GlaLead.other S y.2 y.1 : Int) < (GlaLead.other S z.2 z.1 : Int)) || (decide ((GlaLead.other S y.2 y.1 : Int) = (GlaLead.other S z.2 z.1 : Int)) && decide ((y.2 : Int) < (z.2 : Int)))) ?_ (by rw [before2, Bool.eq_iff_iff]; simp; omega)
              exact et_test (ev_cmp2UU (g := fun i j k l => decide (i < k) || (decide (i = k) && decide (j < l))) (eu_tup (ea_cons (evP H5 _ (Ex.refl _) rfl) (ea_cons (evL H5 _ (Ex.refl _) rfl) ea_nil)) (by simp)) (eu_tup (ea_cons (ev_var rfl) (ea_cons (ev_var rfl) ea_nil)) (by simp)))
            · intro hb6 H6 e6
              rw [if_pos hb6] at kq
              have e06 := e05.trans e6
              apply s_retR
              · exact er_callR Awk.mono (vs := [.ref a, .ref g, .int (y.2 : Int), .int (GlaLead.other S y.2 y.1 : Nat)]) (ea_cons (ev_var rfl) (ea_cons (ev_var rfl) (ea_cons (evL H6 _ e6 rfl) (ea_cons (evP H6 _ e6 rfl) ea_nil)))) ⟨.ref a, g, S, s, y.2, _, rfl, id0.mono e06, dg.mono e06, gn, nl, hoe2.1, rfl⟩
              · intro v7 H7 e7 is7
                exact kq _ H7 (e06.trans e7) is7
            · intro hb6 H6 e6
              rw [if_neg (by rw [hb6]; exact Bool.false_ne_true)] at kq
              apply s_ret
              · exact ev_var rfl
              · intro H7 e7
                exact kq _ H7 ((e05.trans e6).trans e7) (is5'.mono (e6.trans e7))
end
end Hl
end PHl28

section PHl29
set_option Elab.async false
set_option linter.all false
set_option maxRecDepth 100000
set_option maxHeartbeats 4000000
local macro_rules | `(tactic| walk_at "ev") => `(tactic| (first
  | exact Evl.ev_c
  | exact Evl.ev_var rfl
  | (apply Hl.ev_I0 <;> walk_at "ev")
  | (apply Hl.ev_I <;> walk_at "ev")
  | (apply Hl.ev_ixT <;> walk_at "ev")
  | (apply Hl.ev_ixL <;> walk_at "ev")
  | exact Evl.ea_nil
  | (apply Evl.ea_cons <;> walk_at "ev")
  | (apply Hl.ev_callV <;> first | assumption | walk_at "ev")
  | (apply Hl.ev_eq <;> walk_at "ev")
  | (apply Hl.ev_ne <;> walk_at "ev")
  | (apply Hl.ev_fld <;> first | assumption | walk_at "ev")
  | (apply Hl.ev_lenL <;> first | assumption | walk_at "ev")
  | (apply Hl.ev_chain <;> first | (refine fun (_ : _ = _) => ?_; walk_at "ev") | walk_at "ev")
  | (apply Evl.ev_orV <;> first | (refine fun (_ : _ = _) => ?_; walk_at "ev") | walk_at "ev")
  | (apply Evl.ev_andV <;> first | (refine fun (_ : _ = _) => ?_; walk_at "ev") | walk_at "ev")
  | (apply Evl.ev_notV <;> walk_at "ev")
  | (apply Evl.et_test <;> walk_at "ev")
  | (apply Evl.et_B <;> walk_at "ev")
  | (apply Evl.et_not <;> walk_at "ev")
  | (apply Evl.et_and <;> first | (refine fun (_ : _ = _) => ?_; walk_at "ev") | walk_at "ev")
  | (apply Evl.et_or <;> first | (refine fun (_ : _ = _) => ?_; walk_at "ev") | walk_at "ev")
  | assumption
  | (exact Evl.st_of (by assumption))
  | exact rfl
  | skip))

namespace Hl
open PySem PySem.Spec PyProof.Rows L2 Evl
open GlaPlan (Pt Plan)
open GlaLead (LeadShop)
/-! ### dicts by numbers -/
def kI (n : Nat) : Key := .inl (n : Int)
theorem kI_inj {a b : Nat} (h : kI a = kI b) : a = b := by
  injection h with h; omega
def isDK (H : Hp) (g : Addr) (f : Nat → Option V) : Prop := ∃ kvs : List (Key × V), H g = some (.dK kvs) ∧ (∀ n, valV kvs (kI n) = f n) ∧ (kvs.map (·.1)).Nodup ∧ ∀ k ∈ kvs.map (·.1), ∃ n, k = kI n
theorem isDK.mono {H H' : Hp} {g : Addr} {f : Nat → Option V} (e : Ex H H') (h : isDK H g f) : isDK H' g f := by
  obtain ⟨kvs, h1, h2⟩ := h
  exact ⟨kvs, e _ _ h1, h2⟩
theorem isDK.nil {H : Hp} {g : Addr} (h : H g = some (.dK [])) : isDK H g fun _ => none := ⟨[], h, fun _ => rfl, List.Pairwise.nil, fun _ h => nomatch h⟩
theorem isDK.get {H : Hp} {g : Addr} {f : Nat → Option V} {n : Nat} (h : isDK H g f) : DGet H g (.int (n : Int)) (f n) := by
  obtain ⟨kvs, h1, h2, _⟩ := h
  rw [← h2 n]
  exact DGet.k (k := kI n) h1
theorem isDK.put {H : Hp} {g : Addr} {f : Nat → Option V} {n : Nat} (v : V) (h : isDK H g f) (m : List Nat) (hm : ∀ n, (f n).isSome = true → n ∈ m) (hz : m.length < 1000000) :
    ∃ ob, DPut H g (.int (n : Int)) v (upd H g ob) ∧ isDK (upd H g ob) g fun q => if q = n then some v else f q := by
  obtain ⟨kvs, h1, h2, h3, h4⟩ := h
  have hlen : kvs.length ≤ m.length := by
    have : (kvs.map (·.1)).length ≤ (m.map kI).length := by
      refine Geo.sub_len h3 fun k hk => ?_
      obtain ⟨p, rfl⟩ := h4 k hk
      refine List.mem_map.2 ⟨p, hm p ?_, rfl⟩
      rw [← h2 p]
      cases e : valV kvs (kI p) with
      | some _ => rfl
      | none => exact absurd hk (valV_not e)
    simpa using this
  have hl : kvs.length < sizeLine := Nat.lt_of_le_of_lt hlen (Nat.lt_of_lt_of_le hz (by decide))
  refine ⟨.dK (putK kvs (kI n) v), DPut.k (k := kI n) h1 hl, putK kvs (kI n) v, upd_same, fun q => ?_, ?_, ?_⟩
  · rw [valV_put, h2 q]
    show _ = if q = n then some v else f q
    by_cases e : q = n
    · rw [e, if_pos rfl, if_pos rfl]
    · rw [if_neg e, if_neg fun z => e (kI_inj z)]
  · rw [keys_put]
    split
    · exact h3
    · rename_i hn
      rw [List.nodup_append]
      refine ⟨h3, by simp, fun a ha c hc => ?_⟩
      rw [List.mem_singleton.1 hc]
      rintro rfl
      refine valV_not ?_ ha
      cases e : valV kvs (kI n) with
      | none => rfl
      | some _ => rw [e] at hn; exact absurd rfl hn
  · intro k hk
    rw [keys_put] at hk
    split at hk
    · exact h4 k hk
    · rcases List.mem_append.1 hk with z | z
      · exact h4 k z
      · exact ⟨n, List.mem_singleton.1 z⟩
section
variable {K : PySem.W.Frag} {σ : L2.St} {H H' : Hp} {ta tb td te tv ty : TE} {v : V} {D : Ends} {tu tz : TS}
theorem ef_dnewK : EvF tDNewK σ H (fun p H' => H' p = some (.dK [])) := fun H1 e Q q p hp => q p _ hp (Ex.new hp) upd_same
theorem ev_dnotinI {g : Addr} {f : Nat → Option V} {n : Nat} (hy : Ev ty σ H (.int (n : Int))) (hd : Ev td σ H (.ref g)) (h : isDK H g f) : Ev (tDNotIn ty td) σ H (.bl (!(f n).isSome)) := fun H1 e1 Q q =>
  hy H1 e1 _ fun H2 e2 => hd H2 (e1.trans e2) _ fun H3 e3 => ⟨g, f n, rfl, (h.mono ((e1.trans e2).trans e3)).get, q H3 (e2.trans e3)⟩
theorem s_dputI {g : Addr} {f : Nat → Option V} {n : Nat} (m : List Nat) (hy : Ev ty σ H (.int (n : Int))) (hd : Ev td σ H (.ref g)) (hv : Ev tv σ H v) (h : isDK H g f) (hm : ∀ n, (f n).isSome = true → n ∈ m) (hz : m.length < 1000000)
    (k : ∀ H1 ob, Ex H H1 → isDK (upd H1 g ob) g (fun q => if q = n then some v else f q) → D.nx σ (upd H1 g ob)) : sDPut td ty tv D σ H :=
  hv H (Ex.refl H) _ fun H1 e1 => hd H1 e1 _ fun H2 e2 => hy H2 (e1.trans e2) _ fun H3 e3 => by
    have e := (e1.trans e2).trans e3
    obtain ⟨ob, h1, h2⟩ := (h.mono e).put (n := n) v m hm hz
    exact ⟨g, _, rfl, h1, k H3 ob e h2⟩
end
/-! ### all strips -/
def sstep (s : LeadShop) (S : Plan) (a : List Nat × List (List St2)) (l : Nat) : List Nat × List (List St2) := if l ∈ a.1 then a else (a.1 ++ (solOf s S l).map (·.2), a.2 ++ [solOf s S l])
def sfold (s : LeadShop) (S : Plan) (ls : List Nat) : List Nat × List (List St2) := ls.foldl (sstep s S) ([], [])
theorem sfold_snoc (s : LeadShop) (S : Plan) (ls : List Nat) (l : Nat) : sfold s S (ls ++ [l]) = sstep s S (sfold s S ls) l := by
  rw [sfold, List.foldl_append]; rfl
theorem sol_way (s : LeadShop) (S : Plan) (lt : ∀ m ∈ S.lines, m.1 < m.2) {l : Nat} (hl : l < S.lines.length) : ∃ v i, isEnd S i v ∧ solOf s S l = wayAt s S v i := by
  have he : isEnd S l (GlaLead.lineOf S l).1 := ⟨hl, .inl rfl⟩
  have hoe := (oth_end lt (way_last (s := s) lt he)).1
  have hoe2 := (oth_end lt (way_last (s := s) lt hoe)).1
  rw [solOf, sol2]
  split
  · exact ⟨_, _, he, rfl⟩
  · rw [sol3]
    split
    · exact ⟨_, _, hoe2, rfl⟩
    · exact ⟨_, _, hoe, rfl⟩
theorem way_in {s : LeadShop} {S : Plan} (lt : ∀ m ∈ S.lines, m.1 < m.2) {v i : Nat} (h : isEnd S i v) : ∀ x ∈ wayAt s S v i, x.2 < S.lines.length := fun x hx => (mw_end lt i _ v i h x hx).1
theorem intsV_ne {x : Nat} {l : List Nat} {us : List V} (h : ∀ u ∈ us, ∃ a, u = V.ref a) : intsV (x :: l) ≠ us := by
  rintro rfl
  obtain ⟨a, z⟩ := h (.int (x : Int)) List.mem_cons_self
  cases z
/-- a new list of things -/
def isLX {α : Type} (R : α → V → Hp → Prop) (xs : List α) (v : V) (H : Hp) : Prop := ∃ p us, v = .ref p ∧ H p = some (.lst us) ∧ Its R xs us H
theorem isLX.mono {α : Type} {R : α → V → Hp → Prop} (m : MonoR R) {xs : List α} {v : V} {H H' : Hp} (e : Ex H H') (h : isLX R xs v H) : isLX R xs v H' := by
  obtain ⟨p, us, h1, h2, h3⟩ := h
  exact ⟨p, us, h1, e _ _ h2, h3.mono m e⟩
theorem monoStr {C2 : Addr} {S : Plan} : MonoR (isStr C2 S) := fun _ _ _ _ e h => h.mono e
section
variable {P : Program} {w : World} {K : PySem.W.Frag} {mg : Str → Option Value} {base : Heap} {C C2 : Addr}
def Aso (K : PySem.W.Frag) (C C2 : Addr) : List V → Hp → (V → Hp → Prop) → Prop := fun vs H R => ∃ (x : V) (S : Plan) (s : LeadShop), vs = [x, .int (s.a : Int), .int (s.b : Int)] ∧ isDr K C S x H ∧ GN S ∧ S.lines.length ≤ 8192 ∧ (s.a ≤ 1000 ∧ s.b ≤ 1000) ∧ (∀ v, v < S.pts.length → (GlaLead.leadsAt S v).length ≤ 300) ∧ R = isLX (isStr C2 S) (sfold s S (GlaLead.leads S)).2
theorem Aso.mono : Mono (Aso K C C2) := fun vs H H' v e ⟨x, S, s, h, h1, h2⟩ => ⟨x, S, s, h, h1.mono e, h2⟩
abbrev s_strips_of : Stmt := topS 40
abbrev N_strips_of : List Str := ["drawing", "a", "b", "joined", "taken", "strips_so_far", "lead", "strip", "other"]
theorem sc_strips_of : FnScope N_strips_of ["drawing", "a", "b"] (defScope s_strips_of) := ⟨rfl, rfl, rfl, by decide +kernel, rfl, by decide +kernel, by decide +kernel⟩
theorem k_strips_of (D2 : StC K C2) (F : Dfn K mg "strips_of" s_strips_of ["drawing", "a", "b"]) (c_leads_of : Cal P w K mg base 2 "leads_of" (spR (Alds K C))) (c_joins_of : Cal P w K mg base 4 "joins_of" (spR (Ajo K C))) (c_strip_of_least : Cal P w K mg base 4 "strip_of_least" (spR (Asl K C C2))) : Cal P w K mg base 5 "strips_of" (spR (Aso K C C2)) := by
  refine mk_R F sc_strips_of (fun vs H v h => by obtain ⟨_, _, _, rfl, _⟩ := h; rfl) (fun f cdv A' outer s0 H vs E v0 hr a => ?_)
  obtain ⟨x, S, s, rfl, id0, gn, nl, hab, hdeg, rfl⟩ := a
  have lt := gn.lt
  have cl2 := D2.cl
  have m1 := D2.n1
  refine ⟨_, (pss_cons (ps_set (i := 3) sc_strips_of.nd rfl (Or.inl rfl) (pe_c c_joins_of hr (by decide) (by rfl) (pa_cons (pv 0) (pa_cons (pv 1) (pa_cons (pv 2) pa_nil)))))
      (pss_cons (ps_set (i := 4) sc_strips_of.nd rfl (Or.inl rfl) pe_dnewK)
      (pss_cons (ps_set (i := 5) sc_strips_of.nd rfl (Or.inl rfl) (pe_lst pa_nil))
      (pss_cons (ps_for PassesOwn.never rfl (pi_list (pe_c c_leads_of hr (by decide) (by rfl) (pa_cons (pv 0) pa_nil))) (pg_name (i := 6) sc_strips_of.nd rfl (Or.inl rfl))
        (pss_one (ps_if (pt_cmp (pc_dnotin (hu_of hr) (pv 6) (pv 4)) rfl) (pss_cons (ps_set (i := 7) sc_strips_of.nd rfl (Or.inl rfl) (pe_c c_strip_of_least hr (by decide) (by rfl) (pa_cons (pv 0) (pa_cons (pv 3) (pa_cons (pv 6) pa_nil)))))
      (pss_cons (ps_for PassesOwn.never rfl (pi_list (pe_fld (pv 7) rfl)) (pg_name (i := 8) sc_strips_of.nd rfl (Or.inl rfl))
        (pss_one (ps_dput (hu_of hr) (pv 4) (pv 8) pe_bl rfl)))
      (pss_one (ps_expr (pe_bm PySem.F.plainAttrs_list PySem.F.slot_list_append PySem.F.type_list_append mt_append (pv 5) (pa_cons (pv 7) pa_nil)))))) pss_nil)))
      (pss_one (ps_ret (pv 5))))))), fun Q kq => ?_⟩
  apply q_asgR
  · exact er_callR Ajo.mono (vs := [x, .int (s.a : Int), .int (s.b : Int)]) (ea_cons (ev_var rfl) (ea_cons (ev_var rfl) (ea_cons (ev_var rfl) ea_nil))) ⟨x, S, s, rfl, id0, gn, hab, hdeg, rfl⟩
  intro jv H1 e1 ij
  obtain ⟨g, rfl, dg⟩ := ij
  apply q_asgF ef_dnewK
  intro tk H2 htk e2 htk2
  apply q_asgL (xs := []) (el_lst ea_nil (by simp))
  intro sl H3 hsl3 e3 hsl33
  have nst : sl ≠ tk := fun z => by rw [z, htk2] at hsl3; cases hsl3
  have hbt : H1 tk = none := htk
  have hbs : H1 sl = none := fresh_back e2 hsl3
  have e13 := e2.trans e3
  have e03 := e1.trans e13
  have er := er_callR (σ := [some x, some (.int (s.a : Int)), some (.int (s.b : Int)), some (.ref g), some (.ref tk), some (.ref sl), none, none, none]) (H := H3) (tr := tCons (tVar 0) tNil) Alds.mono (vs := [x]) (ea_cons (ev_var rfl) ea_nil) ⟨x, S, rfl, id0.mono e03, gn.inp, gn.nl, rfl⟩
  refine er H3 (Ex.refl H3) _ ?_
  rintro v H4 e4 ⟨p, rfl, hpl⟩
  generalize hL : GlaLead.leads S = L at *
  have hLm : ∀ i ∈ L, i < S.lines.length := fun i hi => leads_lt (by rw [hL]; exact hi)
  have hLl : L.length ≤ 8192 := by rw [← hL]; exact Nat.le_trans (leads_len S) nl
  have e14 := e13.trans e4
  have apart : L ≠ [] → p ≠ tk ∧ p ≠ sl := by
    intro hne
    obtain ⟨l0, lr, rfl⟩ := List.exists_cons_of_ne_nil hne
    refine ⟨?_, ?_⟩
    · rintro rfl
      rw [e4 _ _ (e3 _ _ htk2)] at hpl; cases hpl
    · rintro rfl
      rw [e4 _ _ hsl33] at hpl; cases hpl
  refine ⟨p, rfl, ⟨_, sq_of hpl⟩, for_list (xs := L.map fun (n : Nat) => V.int (n : Int)) (fun i σ' H' => ∃ (Hf : Hp) (us : List V) (o6 o7 o8 : Option V), Hf tk = none ∧ Hf sl = none ∧ Ex H1 Hf ∧ Ex Hf H' ∧ H' p = some (.lst (L.map fun (n : Nat) => V.int (n : Int))) ∧
    isDK H' tk (fun n => if n ∈ (sfold s S (L.take i)).1 then some (.bl true) else none) ∧ (∀ n ∈ (sfold s S (L.take i)).1, n < S.lines.length) ∧ H' sl = some (.lst us) ∧ us.length ≤ i ∧ Its (isStr C2 S) (sfold s S (L.take i)).2 us Hf ∧
    σ' = [some x, some (.int (s.a : Int)), some (.int (s.b : Int)), some (.ref g), some (.ref tk), some (.ref sl), o6, o7, o8]) ?_ ?_ ?_ ?_⟩
  · refine ⟨H1, [], none, none, none, hbt, hbs, Ex.refl _, e14, hpl, ?_, by intro n hn; exact absurd hn (by simp [sfold]), e4 _ _ hsl33, Nat.zero_le _, ?_, rfl⟩
    · have := isDK.nil ((e3.trans e4) _ _ htk2)
      simpa [sfold] using this
    · exact Its.nil
  · rintro i σ' H' _ ⟨_, _, _, _, _, _, _, _, _, h, _⟩
    exact sq_of h
  · rintro i v σ' H5 hv ⟨Hf, us, o6, o7, o8, q1, q2, q3, q4, q5, q6, q7, q8, q9, q10, rfl⟩
    rw [List.getElem?_map] at hv
    obtain ⟨ld, hld, rfl⟩ := Option.map_eq_some_iff.1 hv
    have hLne : L ≠ [] := by intro z; rw [z] at hld; simp at hld
    obtain ⟨ptk, psl⟩ := apart hLne
    have hlm := hLm ld (List.mem_of_getElem? hld)
    have et : L.take (i + 1) = L.take i ++ [ld] := by rw [List.take_add_one, hld]; rfl
    have hi : i < L.length := (List.getElem?_eq_some_iff.1 hld).1
    rw [et, sfold_snoc]
    generalize sfold s S (L.take i) = sf at *
    obtain ⟨tks, outs⟩ := sf
    simp only at q6 q7 q10 ⊢
    have e15 := q3.trans q4
    apply s_when (b := !((fun n => if n ∈ tks then some (V.bl true) else none) ld).isSome)
    · exact et_B (ev_dnotinI (ev_var rfl) (ev_var rfl) q6)
    · intro hb H6 e6
      have hnl : ld ∉ tks := by
        intro h; simp [h] at hb
      rw [sstep, if_neg hnl]
      dsimp only
      obtain ⟨wv, wi, hwe, hwq⟩ := sol_way s S lt hlm
      have hwin : ∀ z ∈ solOf s S ld, z.2 < S.lines.length := by rw [hwq]; exact way_in lt hwe
      have hwc : ∃ z r, solOf s S ld = z :: r := ⟨_, _, by rw [hwq]; exact way_cons s S wv wi⟩
      have e06 := e1.trans (e15.trans e6)
      have er2 := er_callR (σ := [some x, some (.int (s.a : Int)), some (.int (s.b : Int)), some (.ref g), some (.ref tk), some (.ref sl), some (.int (ld : Int)), o7, o8]) (H := H6) (tr := tCons (tVar 0) (tCons (tVar 3) (tCons (tVar 6) tNil))) (Asl.mono (K := K) (C := C) (C2 := C2)) (vs := [x, .ref g, .int (ld : Int)]) (ea_cons (ev_var rfl) (ea_cons (ev_var rfl) (ea_cons (ev_var rfl) ea_nil))) ⟨x, g, S, s, ld, rfl, id0.mono e06, dg.mono (e15.trans e6), gn, nl, hlm, rfl⟩
      generalize solOf s S ld = ws at *
      apply q_asgR er2
      intro v7 H7 e7 is7
      obtain ⟨b7, d7, fs7, la7, lp7, rfl, hb7, k5, k6, hla7, hlp7⟩ := is7
      have e57 := e6.trans e7
      have q67 := q6.mono e57
      have q87 := e57 _ _ q8
      have hus : ∀ u ∈ us, ∃ a, u = V.ref a := by
        intro u hu
        obtain ⟨j, hj⟩ := List.mem_iff_getElem?.1 hu
        obtain ⟨z, hz, r⟩ := q10.get hj
        obtain ⟨a, _, _, _, _, rfl, _⟩ := r
        exact ⟨a, rfl⟩
      obtain ⟨kvs7, hk7, _⟩ := id q67
      obtain ⟨z0, wr, hws⟩ := hwc
      have n1 : b7 ≠ tk := fun z => by rw [z, hk7] at hb7; cases hb7
      have n2 : b7 ≠ sl := fun z => by rw [z, q87] at hb7; cases hb7
      have n3 : la7 ≠ tk := fun z => by rw [z, hk7] at hla7; cases hla7
      have n4 : lp7 ≠ tk := fun z => by rw [z, hk7] at hlp7; cases hlp7
      have n5 : la7 ≠ sl := fun z => by
        rw [z, q87, hws] at hla7
        refine intsV_ne (x := z0.2) (l := wr.map (·.2)) hus ?_
        injection hla7 with q; injection q with q; exact q.symm
      have n6 : lp7 ≠ sl := fun z => by
        rw [z, q87, hws] at hlp7
        have hrp : ∃ r, GlaLead.rowPts S (z0 :: wr) = z0.1 :: r := ⟨_, rfl⟩
        obtain ⟨r, hr'⟩ := hrp
        rw [hr'] at hlp7
        refine intsV_ne (x := z0.1) (l := r) hus ?_
        injection hlp7 with q; injection q with q; exact q.symm
      refine q_forLn (a := la7) (xs := intsV (ws.map (·.2))) (ev_fld (ev_var rfl) hb7 cl2 m1 k5) (sq_of hla7) (fun k σ' H' => ∃ o8, Ex (del H7 tk) H' ∧ isDK H' tk (fun n => if n ∈ tks ++ (ws.map (·.2)).take k then some (.bl true) else none) ∧
        σ' = [some x, some (.int (s.a : Int)), some (.int (s.b : Int)), some (.ref g), some (.ref tk), some (.ref sl), some (.int (ld : Int)), some (.ref b7), o8]) ?_ ?_ ?_ ?_
      · intro H8 e8
        refine ⟨o8, del_ex.trans e8, ?_, rfl⟩
        have := q67.mono e8
        simpa using this
      · rintro k σ' H' _ ⟨_, d1, _⟩
        exact sq_of (d1 _ _ (by rw [del_ne n3]; exact hla7))
      · rintro k v σ' H8 hv ⟨o8, d1, d2, rfl⟩
        rw [intsV, List.getElem?_map] at hv
        obtain ⟨nn, hnn, rfl⟩ := Option.map_eq_some_iff.1 hv
        have et3 : (ws.map (·.2)).take (k + 1) = (ws.map (·.2)).take k ++ [nn] := by rw [List.take_add_one, hnn]; rfl
        refine s_dputI (n := nn) (List.range S.lines.length) (ev_var rfl) (ev_var rfl) ev_c d2 ?_ (by rw [List.length_range]; omega) ?_
        · intro n hn
          have hn' : n ∈ tks ++ (ws.map (·.2)).take k := by
            refine Classical.byContradiction fun h => ?_
            rw [if_neg h] at hn; cases hn
          refine List.mem_range.2 ?_
          rcases List.mem_append.1 hn' with z | z
          · exact q7 n z
          · obtain ⟨y, hy, rfl⟩ := List.mem_map.1 (List.mem_of_mem_take z)
            exact hwin y hy
        · intro H9 ob e9 hd
          refine ⟨_, Ex.mut (d1.trans e9) del_at, ?_, rfl⟩
          have ef : (fun q => if q = nn then some (V.bl true) else if q ∈ tks ++ (ws.map (·.2)).take k then some (.bl true) else none) = fun n => if n ∈ tks ++ (ws.map (·.2)).take (k + 1) then some (.bl true) else none := by
            funext q
            rw [et3, ← List.append_assoc]
            by_cases z : q = nn
            · rw [if_pos z, if_pos (by simp [z])]
            · rw [if_neg z]
              congr 1
              simp [z]
          rw [← ef]; exact hd
      · rintro σ' H8 ⟨o8, d1, d2, rfl⟩
        have hlen : (intsV (ws.map (·.2))).length = (ws.map (·.2)).length := by simp [intsV]
        rw [hlen, List.take_length] at d2
        have q88 := d1 _ _ (by rw [del_ne nst]; exact q87)
        have ef8 : Ex Hf H8 := (ex_del (q4.trans e57) q1).trans d1
        refine s_app (l := sl) (v := .ref b7) q88 (ev_var rfl) (ev_var rfl) (by omega) ?_
        intro H9 e9
        have d29 := d2.mono e9
        have x78 : ∀ (c : Addr) (o : HO), c ≠ tk → c ≠ sl → H7 c = some o → del (del H9 tk) sl c = some o := fun c o z1 z2 h => by
          rw [del_ne z2, del_ne z1]; exact e9 _ _ (d1 _ _ (by rw [del_ne z1]; exact h))
        refine ⟨del (del H9 tk) sl, us ++ [.ref b7], _, _, _, by rw [del_ne (Ne.symm nst)]; exact del_at, del_at, ex_del (ex_del ((q3.trans ef8).trans e9) hbt) hbs, Ex.mut (del_ex.trans del_ex) del_at, ?_, ?_, ?_, upd_same, by simp; omega, ?_, rfl⟩
        · rw [upd_ne psl]
          exact e9 _ _ (d1 _ _ (by rw [del_ne ptk]; exact e57 _ _ q5))
        · obtain ⟨kvs, hk, hk2⟩ := d29
          exact ⟨kvs, by rw [upd_ne (Ne.symm nst)]; exact hk, hk2⟩
        · intro n hn
          rcases List.mem_append.1 hn with z | z
          · exact q7 n z
          · obtain ⟨y, hy, rfl⟩ := List.mem_map.1 z
            exact hwin y hy
        · refine Its.snoc (q10.mono monoStr (ex_del (ex_del (ef8.trans e9) q1) q2)) ⟨b7, d7, fs7, la7, lp7, rfl, x78 _ _ n1 n2 hb7, k5, k6, x78 _ _ n3 n5 hla7, x78 _ _ n4 n6 hlp7⟩
    · intro hb H6 e6
      have hnl : ld ∈ tks := by
        refine Classical.byContradiction fun h => ?_
        simp [h] at hb
      rw [sstep, if_pos hnl]
      exact ⟨Hf, us, _, o7, o8, q1, q2, q3, q4.trans e6, e6 _ _ q5, q6.mono e6, q7, e6 _ _ q8, by omega, q10, rfl⟩
  · rintro σ' H5 ⟨Hf, us, o6, o7, o8, q1, q2, q3, q4, q5, q6, q7, q8, q9, q10, rfl⟩
    rw [List.length_map, List.take_length] at q10
    dsimp only
    apply s_ret
    · exact ev_var rfl
    · intro H6 e6
      exact kq _ H6 ((e1.trans (q3.trans q4)).trans e6) ⟨sl, us, rfl, e6 _ _ q8, q10.mono monoStr (q4.trans e6)⟩
end
end Hl
end PHl29

section PHl30
set_option Elab.async false
set_option linter.all false
set_option maxRecDepth 100000
set_option maxHeartbeats 4000000
local macro_rules | `(tactic| walk_at "ev") => `(tactic| (first
  | exact Evl.ev_c
  | exact Evl.ev_var rfl
  | (apply Hl.ev_I0 <;> walk_at "ev")
  | (apply Hl.ev_I <;> walk_at "ev")
  | (apply Hl.ev_ixT <;> walk_at "ev")
  | (apply Hl.ev_ixL <;> walk_at "ev")
  | exact Evl.ea_nil
  | (apply Evl.ea_cons <;> walk_at "ev")
  | (apply Hl.ev_callV <;> first | assumption | walk_at "ev")
  | (apply Hl.ev_eq <;> walk_at "ev")
  | (apply Hl.ev_ne <;> walk_at "ev")
  | (apply Hl.ev_fld <;> first | assumption | walk_at "ev")
  | (apply Hl.ev_lenL <;> first | assumption | walk_at "ev")
  | (apply Hl.ev_chain <;> first | (refine fun (_ : _ = _) => ?_; walk_at "ev") | walk_at "ev")
  | (apply Evl.ev_orV <;> first | (refine fun (_ : _ = _) => ?_; walk_at "ev") | walk_at "ev")
  | (apply Evl.ev_andV <;> first | (refine fun (_ : _ = _) => ?_; walk_at "ev") | walk_at "ev")
  | (apply Evl.ev_notV <;> walk_at "ev")
  | (apply Evl.et_test <;> walk_at "ev")
  | (apply Evl.et_B <;> walk_at "ev")
  | (apply Evl.et_not <;> walk_at "ev")
  | (apply Evl.et_and <;> first | (refine fun (_ : _ = _) => ?_; walk_at "ev") | walk_at "ev")
  | (apply Evl.et_or <;> first | (refine fun (_ : _ = _) => ?_; walk_at "ev") | walk_at "ev")
  | assumption
  | (exact Evl.st_of (by assumption))
  | exact rfl
  | skip))

namespace Hl
open PySem PySem.Spec PyProof.Rows L2 Evl
open GlaPlan (Pt Plan)
open GlaLead (LeadShop)
section
variable {K : PySem.W.Frag} {σ : L2.St} {H : Hp} {ta te : TE} {D : Ends}
theorem s_ext {l q : Addr} {xs ys : List V} (hl : H l = some (.lst xs)) (ha : Ev ta σ H (.ref l)) (h : Ev te σ H (.ref q)) (hq : H q = some (.lst ys)) (hz : xs.length + ys.length ≤ 100000) (k : ∀ H1, Ex H H1 → D.nx σ (upd H1 l (.lst (xs ++ ys)))) :
    tDrop (tBM K "list" rExtend ta (tCons te tNil)) D σ H := ha H (Ex.refl H) _ fun H1 e1 =>
  ⟨Or.inl ⟨rfl, xs, sq_of (e1 l _ hl)⟩, h H1 e1 _ fun H2 e2 => ⟨l, q, xs, ys, rfl, rfl, e2 l _ (e1 l _ hl), e2 q _ (e1 q _ hq), sz_of hz, k H2 (e1.trans e2)⟩⟩
end
def outRow (r : List Nat) : List Int := (r.length : Int) :: r.map fun (n : Nat) => (n : Int)
def outAll (rs : List (List Nat)) : List Int := (0 : Int) :: ((rs.length : Int) :: rs.flatMap outRow)
def rowsOf (s : LeadShop) (S : Plan) : List (List Nat) := (sfold s S (GlaLead.leads S)).2.map (GlaLead.rowPts S)
def stripsV (s : LeadShop) (b : List UInt8) : List Int := match refuse s b with
  | some l => l
  | none => outAll (rowsOf s (GlaPlan.parts b))
structure Pre (s : LeadShop) (S : Plan) : Prop where
  gn : GN S
  nl : S.lines.length ≤ 8192
  ab : s.a ≤ 1000 ∧ s.b ≤ 1000
  deg : ∀ v, v < S.pts.length → (GlaLead.leadsAt S v).length ≤ 300
  size : (outAll (rowsOf s S)).length ≤ 90000
section
variable {P : Program} {w : World} {K : PySem.W.Frag} {mg : Str → Option Value} {base : Heap} {C C2 : Addr}
def Ast (K : PySem.W.Frag) : List V → Hp → (V → Hp → Prop) → Prop := fun vs H R => ∃ (s : LeadShop) (x : V) (b : List UInt8), vs = shopV s ++ [x] ∧ isBy K b x H ∧ (refuse s b = none → b.length = sizeAt b ∧ Pre s (GlaPlan.parts b)) ∧
  R = fun v H' => ∃ p, v = .ref p ∧ H' p = some (.lst ((stripsV s b).map V.int))
theorem Ast.mono : Mono (Ast K) := fun vs H H' v e ⟨s, x, b, h, h1, h2⟩ => ⟨s, x, b, h, h1.mono e, h2⟩
theorem intsV_len (l : List Nat) : (intsV l).length = l.length := by simp [intsV]
theorem mk_RF {x : Str} {st : Stmt} {N ps : List Str} {k : Nat} {A : List V → Hp → (V → Hp → Prop) → Prop} {f : Addr} {fd : FuncData} (F : Fun K x x st f fd) (S : FnScope N ps (defScope st)) (len : ∀ vs H v, A vs H v → vs.length = ps.length)
    (hbody : ∀ (cdv : Value) (A' : Around) (outer : List Env) (s : Shared) (H : Hp) (vs : List V) (E : XK) (R : V → Hp → Prop), Room k (A'.deeper (envOfC x (defScope st) s.heap.objs.size f cdv)) → A vs H R →
      ∃ t, PSs (cxOf CX0 P w K mg base N x (defScope st) f cdv A' outer s H E).nox (defBody st) t ∧ ∀ (Q : VK), (∀ v H', Ex H H' → R v H' → Q v H') → t { nx := fun _ H' => Q .non H', rt := Q } (start N vs) H) : FnOk P w K mg base CX0 (k + 1) f fd ps (spR A) := by
  refine F.ok S (fun vs H Q E h => ?_) (fun cdv A' outer s H vs Q E hr h => ?_)
  · obtain ⟨v, a, _⟩ := h
    exact len vs H v a
  · obtain ⟨v, a, q⟩ := h
    obtain ⟨t, h1, h2⟩ := hbody cdv A' outer s H vs E v hr a
    exact ⟨t, h1, h2 Q q⟩
end
end Hl
end PHl30

section PHl31
set_option Elab.async false
set_option linter.all false
set_option maxRecDepth 100000
set_option maxHeartbeats 2000000
namespace Hl
open PySem PySem.Spec PyProof.Rows L2 Evl
open GlaPlan (Pt Plan)
open GlaLead (LeadShop)
/-! ### bends by whole numbers -/
theorem key_lt {t1 o1 t2 o2 : Nat} (M : Nat) (h1 : 0 < o1) (h2 : 0 < o2) (b : o1 * o2 ≤ M) (h : t1 * o2 < t2 * o1) : t1 * M / o1 < t2 * M / o2 := by
  have k1 := Nat.div_mul_le_self (t1 * M) o1
  generalize t1 * M / o1 = k at *
  show k + 1 ≤ _
  refine (Nat.le_div_iff_mul_le h2).2 ?_
  refine Nat.le_of_mul_le_mul_right ?_ h1
  calc (k + 1) * o2 * o1 = k * o1 * o2 + o1 * o2 := by rw [Nat.add_mul, Nat.add_mul, Nat.one_mul, Nat.mul_right_comm, Nat.mul_comm o2 o1]
    _ ≤ t1 * M * o2 + M := Nat.add_le_add (Nat.mul_le_mul_right _ k1) b
    _ = (t1 * o2 + 1) * M := by rw [Nat.add_mul, Nat.one_mul, Nat.mul_right_comm]
    _ ≤ t2 * o1 * M := Nat.mul_le_mul_right _ h
    _ = t2 * M * o1 := Nat.mul_right_comm _ _ _
theorem key_eq {t1 o1 t2 o2 : Nat} (M : Nat) (h1 : 0 < o1) (h2 : 0 < o2) (h : t1 * o2 = t2 * o1) : t1 * M / o1 = t2 * M / o2 := by
  rw [← Nat.mul_div_mul_right (t1 * M) o1 h2, ← Nat.mul_div_mul_right (t2 * M) o2 h1, Nat.mul_comm o2 o1, Nat.mul_right_comm t1 M o2, Nat.mul_right_comm t2 M o1, h]
/-! ### put in order -/
section
variable {α : Type} (t : α → Z3)
def ltK (x y : α) : Bool := lex3 (t x) (t y)
theorem putIn_perm (b : α → α → Bool) (x : α) : ∀ l : List α, (GlaPlan.putIn b x l).Perm (x :: l)
  | [] => List.Perm.refl _
  | y :: r => by
    rw [GlaPlan.putIn]
    split
    · exact List.Perm.refl _
    · exact ((putIn_perm b x r).cons y).trans (List.Perm.swap x y r)
theorem inOrder_perm (b : α → α → Bool) : ∀ l : List α, (GlaPlan.inOrder b l).Perm l
  | [] => List.Perm.refl _
  | x :: r => (putIn_perm b x _).trans ((inOrder_perm b r).cons x)
theorem putIn_srt (x : α) : ∀ l : List α, l.Pairwise (fun x y => lex3 (t y) (t x) = false) → (GlaPlan.putIn (ltK t) x l).Pairwise fun x y => lex3 (t y) (t x) = false
  | [], _ => List.pairwise_singleton _ _
  | y :: r, h => by
    have O := swo3 t
    rw [GlaPlan.putIn]
    split
    · rename_i hb
      refine List.pairwise_cons.2 ⟨fun z hz => ?_, h⟩
      rcases List.mem_cons.1 hz with q | q
      · rw [q]; exact O.asym x y hb
      · exact O.tr x y z (O.asym x y hb) ((List.pairwise_cons.1 h).1 z q)
    · rename_i hb
      have hb : lex3 (t x) (t y) = false := by simpa [ltK] using hb
      refine List.pairwise_cons.2 ⟨fun z hz => ?_, putIn_srt x r (List.pairwise_cons.1 h).2⟩
      rcases List.mem_cons.1 ((putIn_perm _ x r).mem_iff.1 hz) with q | q
      · rw [q]; exact hb
      · exact (List.pairwise_cons.1 h).1 z q
theorem inOrder_srt : ∀ l : List α, (GlaPlan.inOrder (ltK t) l).Pairwise fun x y => lex3 (t y) (t x) = false
  | [] => List.Pairwise.nil
  | x :: r => putIn_srt t x _ (inOrder_srt r)
theorem putIn_congr {b b' : α → α → Bool} {x : α} : ∀ {l : List α}, (∀ y ∈ l, b x y = b' x y) → GlaPlan.putIn b x l = GlaPlan.putIn b' x l
  | [], _ => rfl
  | y :: r, h => by
    rw [GlaPlan.putIn, GlaPlan.putIn, h y List.mem_cons_self, putIn_congr fun z hz => h z (List.mem_cons_of_mem _ hz)]
theorem inOrder_congr {b b' : α → α → Bool} : ∀ {l : List α}, (∀ x ∈ l, ∀ y ∈ l, b x y = b' x y) → GlaPlan.inOrder b l = GlaPlan.inOrder b' l
  | [], _ => rfl
  | x :: r, h => by
    show GlaPlan.putIn b x (GlaPlan.inOrder b r) = GlaPlan.putIn b' x (GlaPlan.inOrder b' r)
    rw [inOrder_congr fun y hy z hz => h y (List.mem_cons_of_mem _ hy) z (List.mem_cons_of_mem _ hz)]
    exact putIn_congr fun y hy => h x List.mem_cons_self y (List.mem_cons_of_mem _ ((inOrder_perm b' r).mem_iff.1 hy))
end
end Hl
end PHl31

section PHl32
set_option Elab.async false
set_option linter.all false
set_option maxRecDepth 100000
set_option maxHeartbeats 2000000
namespace Hl
open PySem PySem.Spec PyProof.Rows L2 Evl
open GlaPlan (Pt Plan)
open GlaLead (LeadShop)
def Bd (S : Plan) : Prop := ∀ i, (S.pt i).x ≤ 1048575 ∧ (S.pt i).y ≤ 1048575
theorem mul_lt40 {x y : Int} (hx : x.natAbs < 1048576) (hy : y.natAbs < 1048576) : (x * y).natAbs < 1099511627776 := by
  rw [Int.natAbs_mul]
  exact Nat.mul_lt_mul'' hx hy
theorem goes_lt41 {p q r : Pt} (hp : p.x ≤ 1048575 ∧ p.y ≤ 1048575) (hq : q.x ≤ 1048575 ∧ q.y ≤ 1048575) (hr : r.x ≤ 1048575 ∧ r.y ≤ 1048575) : (GlaPlan.goesOn p q r).natAbs < 2199023255552 := by
  have h1 := mul_lt40 (x := GlaPlan.dx p q) (y := GlaPlan.dx q r) (by rw [GlaPlan.dx]; omega) (by rw [GlaPlan.dx]; omega)
  have h2 := mul_lt40 (x := GlaPlan.dy p q) (y := GlaPlan.dy q r) (by rw [GlaPlan.dy]; omega) (by rw [GlaPlan.dy]; omega)
  rw [GlaPlan.goesOn]
  generalize GlaPlan.dx p q * GlaPlan.dx q r = u at *
  generalize GlaPlan.dy p q * GlaPlan.dy q r = v at *
  omega
def tOf (S : Plan) (v : Nat) (x : Nat × Nat) : Z3 := (keyOf S v x.1 x.2, (x.1 : Int), (x.2 : Int))
theorem key_nat {S : Plan} {v i j : Nat} (h : 0 < (GlaLead.bendOf S v i j).2) : keyOf S v i j = (((GlaLead.bendOf S v i j).1 * 2 ^ 82 / (GlaLead.bendOf S v i j).2.toNat : Nat) : Int) := by
  rw [keyOf]
  generalize (GlaLead.bendOf S v i j).1 = t
  obtain ⟨n, hn⟩ := Int.eq_ofNat_of_zero_le (Int.le_of_lt h)
  rw [hn, Int.toNat_natCast, Int.natCast_ediv, Int.natCast_mul]
  rfl
theorem thr_pos {s : LeadShop} {S : Plan} {v i j : Nat} (h : GlaLead.through s S v i j = true) : 0 < (GlaLead.bendOf S v i j).2 := by
  rw [GlaLead.through, Bool.and_eq_true] at h
  exact of_decide_eq_true h.1
theorem pb_eq {s : LeadShop} {S : Plan} (bd : Bd S) {v : Nat} {x y : Nat × Nat} (hx : GlaLead.through s S v x.1 x.2 = true) (hy : GlaLead.through s S v y.1 y.2 = true) : GlaLead.pairBefore S v x y = lex3 (tOf S v x) (tOf S v y) := by
  have px := thr_pos hx
  have py := thr_pos hy
  have kx := key_nat px
  have ky := key_nat py
  have bx : (GlaLead.bendOf S v x.1 x.2).2.natAbs < 2199023255552 := goes_lt41 (bd _) (bd _) (bd _)
  have by_ : (GlaLead.bendOf S v y.1 y.2).2.natAbs < 2199023255552 := goes_lt41 (bd _) (bd _) (bd _)
  rw [Bool.eq_iff_iff, lex3_iff, GlaLead.pairBefore, tOf, tOf, kx, ky]
  simp only [Bool.or_eq_true, Bool.and_eq_true, decide_eq_true_eq, beq_iff_eq, GlaPlan.lineBelow]
  generalize (GlaLead.bendOf S v x.1 x.2).1 = t1 at *
  generalize (GlaLead.bendOf S v y.1 y.2).1 = t2 at *
  obtain ⟨o1, ho1⟩ := Int.eq_ofNat_of_zero_le (Int.le_of_lt px)
  obtain ⟨o2, ho2⟩ := Int.eq_ofNat_of_zero_le (Int.le_of_lt py)
  rw [ho1] at px bx ⊢
  rw [ho2] at py by_ ⊢
  rw [Int.toNat_natCast, Int.toNat_natCast]
  have q1 : 0 < o1 := by omega
  have q2 : 0 < o2 := by omega
  have c1 : o1 < 2199023255552 := by simpa using bx
  have c2 : o2 < 2199023255552 := by simpa using by_
  have hM : 2199023255552 * 2199023255552 = 2 ^ 82 := by decide
  have hb0 := Nat.mul_lt_mul'' c1 c2
  rw [hM] at hb0
  clear hM
  generalize 2 ^ 82 = M at *
  have hb : o1 * o2 ≤ M := Nat.le_of_lt hb0
  have hb' : o2 * o1 ≤ M := by rw [Nat.mul_comm]; exact hb
  have z1 := key_lt (t1 := t1) (t2 := t2) M q1 q2 hb
  have z2 := key_lt (t1 := t2) (t2 := t1) M q2 q1 hb'
  have z3 := key_eq (t1 := t1) (t2 := t2) M q1 q2
  clear kx ky hb0 hb hb'
  generalize t1 * M / o1 = k1 at *
  generalize t2 * M / o2 = k2 at *
  generalize t1 * o2 = l at *
  generalize t2 * o1 = r at *
  omega
/-! ### pairs, both ways -/
def pairsN (s : LeadShop) (S : Plan) (v : Nat) : List Nat → List Nat → List (Nat × Nat)
  | _, [] => []
  | pre, j :: r => (pre.filter fun i => GlaLead.through s S v i j).map (fun i => (i, j)) ++ pairsN s S v (pre ++ [j]) r
theorem trip_map (s : LeadShop) (S : Plan) (v j : Nat) : ∀ pre : List Nat, pre.filterMap (trip s S v j) = ((pre.filter fun i => GlaLead.through s S v i j).map fun i => (i, j)).map (tOf S v)
  | [] => rfl
  | i :: r => by
    rw [List.filterMap_cons, List.filter_cons, trip]
    by_cases h : GlaLead.through s S v i j = true
    · simp only [if_pos h, List.map_cons]
      rw [trip_map s S v j r]; rfl
    · simp only [if_neg h]
      exact trip_map s S v j r
theorem pairsUp_map (s : LeadShop) (S : Plan) (v : Nat) : ∀ r pre : List Nat, pairsUp s S v pre r = (pairsN s S v pre r).map (tOf S v)
  | [], _ => rfl
  | j :: r, pre => by rw [pairsUp, pairsN, List.map_append, pairsUp_map s S v r, trip_map]
theorem pairOf_tOf (S : Plan) (v : Nat) (x : Nat × Nat) : pairOf (tOf S v x) = x := rfl
theorem mem_pairsN (s : LeadShop) (S : Plan) (v : Nat) : ∀ (r pre : List Nat), (pre ++ r).Pairwise (· < ·) → ∀ x, x ∈ pairsN s S v pre r ↔ x.1 ∈ pre ++ r ∧ x.2 ∈ r ∧ x.1 < x.2 ∧ GlaLead.through s S v x.1 x.2 = true
  | [], pre, _, x => by simp [pairsN]
  | j :: r, pre, hp, x => by
    have hp2 : (pre ++ [j] ++ r).Pairwise (· < ·) := by rw [List.append_assoc]; exact hp
    rw [pairsN, List.mem_append, mem_pairsN s S v r (pre ++ [j]) hp2 x]
    obtain ⟨h1, h2, h3⟩ := List.pairwise_append.1 hp
    have h4 := List.pairwise_cons.1 h2
    constructor
    · rintro (h | ⟨a, b, c, d⟩)
      · obtain ⟨i, hi, rfl⟩ := List.mem_map.1 h
        obtain ⟨hi1, hi2⟩ := List.mem_filter.1 hi
        exact ⟨List.mem_append_left _ hi1, List.mem_cons_self, h3 i hi1 j List.mem_cons_self, hi2⟩
      · rw [List.append_assoc] at a
        exact ⟨a, List.mem_cons_of_mem _ b, c, d⟩
    · rintro ⟨a, b, c, d⟩
      rcases List.mem_cons.1 b with q | q
      · left
        obtain ⟨x1, x2⟩ := x
        simp only at q a c d
        subst q
        refine List.mem_map.2 ⟨x1, List.mem_filter.2 ⟨?_, d⟩, rfl⟩
        rcases List.mem_append.1 a with z | z
        · exact z
        · exfalso
          rcases List.mem_cons.1 z with z | z
          · omega
          · have := h4.1 x1 z; omega
      · right
        rw [List.append_assoc]
        exact ⟨a, q, c, d⟩
theorem pairsN_nodup (s : LeadShop) (S : Plan) (v : Nat) : ∀ (r pre : List Nat), (pre ++ r).Pairwise (· < ·) → (pairsN s S v pre r).Nodup
  | [], _, _ => List.Pairwise.nil
  | j :: r, pre, hp => by
    have hp2 : (pre ++ [j] ++ r).Pairwise (· < ·) := by rw [List.append_assoc]; exact hp
    obtain ⟨h1, h2, h3⟩ := List.pairwise_append.1 hp
    have h4 := List.pairwise_cons.1 h2
    rw [pairsN, List.nodup_append]
    refine ⟨?_, pairsN_nodup s S v r _ hp2, ?_⟩
    · refine List.pairwise_map.2 ?_
      refine List.Pairwise.imp ?_ (h1.filter _)
      intro a b hab z
      have := congrArg Prod.fst z
      simp only at this
      omega
    · intro a ha b hb
      rintro rfl
      obtain ⟨i, hi, rfl⟩ := List.mem_map.1 ha
      have := ((mem_pairsN s S v r _ hp2 _).1 hb).2.1
      have := h4.1 _ this
      simp only at this
      omega
theorem leadsAt_inc (S : Plan) (v : Nat) : (GlaLead.leadsAt S v).Pairwise (· < ·) := by
  rw [GlaLead.leadsAt, GlaLead.leads]
  exact (List.Pairwise.filter _ List.pairwise_lt_range).filter _
theorem joinRow_eq {s : LeadShop} {S : Plan} (bd : Bd S) (v : Nat) : joinRow s S v (GlaLead.leadsAt S v) = GlaLead.pairsAt s S v := by
  have inc := leadsAt_inc S v
  rw [joinRow, pairsUp_map, GlaLead.pairsAt]
  generalize GlaLead.leadsAt S v = ls at *
  have incp : ([] ++ ls).Pairwise (· < ·) := inc
  have hmem := mem_pairsN s S v ls [] incp
  have hnd := pairsN_nodup s S v ls [] incp
  generalize pairsN s S v [] ls = P at *
  generalize hL : ((ls.flatMap fun (i : Nat) => ls.map fun (j : Nat) => (i, j)).filter fun (x : Nat × Nat) => decide (x.1 < x.2) && GlaLead.through s S v x.1 x.2) = L
  have hLm : ∀ x, x ∈ L ↔ x ∈ P := by
    intro x
    rw [hmem, ← hL, List.mem_filter, List.mem_flatMap, Bool.and_eq_true, decide_eq_true_eq]
    constructor
    · rintro ⟨⟨i, hi, h⟩, c, d⟩
      obtain ⟨j, hj, rfl⟩ := List.mem_map.1 h
      exact ⟨hi, hj, c, d⟩
    · rintro ⟨a, b, c, d⟩
      exact ⟨⟨x.1, a, List.mem_map.2 ⟨x.2, b, rfl⟩⟩, c, d⟩
  have hLn : L.Nodup := by
    rw [← hL]
    refine List.Pairwise.filter _ ?_
    rw [List.pairwise_flatMap]
    refine ⟨fun i _ => List.pairwise_map.2 (inc.imp fun {a b} h z => ?_), inc.imp fun {a b} h x hx y hy z => ?_⟩
    · have := congrArg Prod.snd z; simp only at this; omega
    · obtain ⟨j, _, rfl⟩ := List.mem_map.1 hx
      obtain ⟨k, _, rfl⟩ := List.mem_map.1 hy
      have := congrArg Prod.fst z; simp only at this; omega
  have hperm : L.Perm P := (List.perm_ext_iff_of_nodup hLn hnd).2 hLm
  have hthr : ∀ x ∈ L, GlaLead.through s S v x.1 x.2 = true := fun x hx => ((hmem x).1 ((hLm x).1 hx)).2.2.2
  have hio : GlaPlan.inOrder (GlaLead.pairBefore S v) L = GlaPlan.inOrder (ltK (tOf S v)) L := inOrder_congr fun x hx y hy => pb_eq bd (hthr x hx) (hthr y hy)
  rw [hio]
  have e1 : (GlaPlan.inOrder (ltK (tOf S v)) L).map (tOf S v) = sort3 (P.map (tOf S v)) := by
    refine srt_uniq (List.pairwise_map.2 (inOrder_srt (tOf S v) L)) (sort3_srt _) ?_
    exact (((inOrder_perm _ L).trans hperm).map _).trans (sort3_perm _).symm
  rw [← e1, List.map_map]
  exact List.map_id _
end Hl
end PHl32

section PHl33
set_option Elab.async false
set_option linter.all false
set_option maxRecDepth 100000
set_option maxHeartbeats 2000000
namespace Hl
open PySem PySem.Spec PyProof.Rows L2 Evl
open GlaPlan (Pt Plan)
open GlaLead (LeadShop)
section
variable {s : LeadShop} {S : Plan}
theorem joins_eq (bd : Bd S) (v : Nat) : GlaLead.joinsAt s S v = greedy (ownRow s S v) := by
  rw [GlaLead.joinsAt, ownRow]
  split
  · rfl
  · rw [joinRow_eq bd]; rfl
theorem jn_onward (bd : Bd S) (i p : Nat) : jn s S i p = GlaLead.onward s S p i := by
  have e : GlaLead.onward s S p i = partner (GlaLead.joinsAt s S p) i := rfl
  rw [e, jn]
  split
  · rw [joins_eq bd]
  · rename_i h
    have hp : S.pt p = ⟨0, 0⟩ := by
      rw [GlaPlan.Plan.pt, List.getD_eq_getElem?_getD, List.getElem?_eq_none (by omega)]; rfl
    have : GlaLead.joinsAt s S p = [] := by
      rw [GlaLead.joinsAt, hp]; rfl
    rw [this]; rfl
/-- a way has each lead once -/
theorem path_leads (lt : ∀ m ∈ S.lines, m.1 < m.2) {f : Nat → St2} {n : Nat} (p : Path s S f n) (no : ∀ k, 0 < k → k ≤ n → (f k).2 ≠ (f 0).2) : ∀ i j, i < j → j ≤ n → (f i).2 ≠ (f j).2 := by
  intro i j hij hj z
  have ei := p.end_ i (by omega)
  have ej := p.end_ j hj
  have n1 := p.nodup lt no i j hij hj
  have n2 := Path.norev lt p (j - i) i (by omega)
  rw [show i + (j - i) = j by omega] at n2
  rw [← z] at ej
  obtain ⟨h1, h2⟩ := ei
  obtain ⟨_, h3⟩ := ej
  have h4 := lt _ (List.mem_of_getElem? (lineOf_get h1))
  by_cases q : (f j).1 = (f i).1
  · exact n1 (Prod.ext q.symm z)
  · refine n2 (Prod.ext ?_ z.symm)
    show (f j).1 = GlaLead.other S (f i).2 (f i).1
    rw [GlaLead.other]
    split <;> omega
theorem path_len1 (lt : ∀ m ∈ S.lines, m.1 < m.2) {f : Nat → St2} {n : Nat} (p : Path s S f n) (no : ∀ k, 0 < k → k ≤ n → (f k).2 ≠ (f 0).2) : n + 1 ≤ S.lines.length := by
  have nd : ((List.range (n + 1)).map fun k => (f k).2).Nodup := Geo.nodup_range_map fun i j h1 h2 => path_leads lt p no i j h1 (by omega)
  have := Geo.sub_len (m := List.range S.lines.length) nd (fun z hz => by
    obtain ⟨k, hk, rfl⟩ := List.mem_map.1 hz
    exact List.mem_range.2 (p.end_ k (by have := List.mem_range.1 hk; omega)).1)
  simpa using this
theorem ext0 (f : Nat → St2) (n : Nat) (y : St2) : ext f n y 0 = f 0 := by
  show (if 0 ≤ n then f 0 else y) = f 0; rw [if_pos (Nat.zero_le _)]
theorem extL (f : Nat → St2) (n : Nat) (y : St2) : ext f n y (n + 1) = y := by
  show (if n + 1 ≤ n then _ else y) = y; rw [if_neg (by omega)]
theorem ext_no {f : Nat → St2} {n : Nat} {y : St2} (no : ∀ k, 0 < k → k ≤ n → (f k).2 ≠ (f 0).2) (h : y.2 ≠ (f 0).2) : ∀ k, 0 < k → k ≤ n + 1 → (ext f n y k).2 ≠ (ext f n y 0).2 := by
  intro k h1 h2
  rw [ext0]
  show (if k ≤ n then f k else y).2 ≠ _
  by_cases q : k ≤ n
  · rw [if_pos q]; exact no k h1 q
  · rw [if_neg q]; exact h
theorem mw_follow (lt : ∀ m ∈ S.lines, m.1 < m.2) (bd : Bd S) : ∀ (d : Nat) (f : Nat → St2) (n : Nat), Path s S f n → (∀ k, 0 < k → k ≤ n → (f k).2 ≠ (f 0).2) → S.lines.length - n ≤ d → ∀ a b, S.lines.length - n < a → S.lines.length - n < b →
    mw s S (f 0).2 a (f n).1 (f n).2 = GlaLead.follow s S (f 0) b (f n).1 (f n).2
  | 0, f, n, p, no, hd, a, b, ha, hb => by
    have := path_len1 lt p no; omega
  | d + 1, f, n, p, no, hd, a + 1, b + 1, ha, hb => by
    have hl := path_len1 lt p no
    rw [mw, GlaLead.follow]
    congr 1
    simp only
    rw [← jn_onward bd]
    cases hj : jn s S (f n).2 (GlaLead.other S (f n).2 (f n).1) with
    | none => rfl
    | some j =>
      have hn : nxt s S (f n) = some (GlaLead.other S (f n).2 (f n).1, j) := by rw [nxt, hj]; rfl
      have pe := p.ext hn
      simp only
      by_cases h : j = (f 0).2
      · have hb := pe.back lt (Nat.le_refl (n + 1)) (by rw [extL, ext0]; exact h)
        rw [extL, ext0] at hb
        rw [if_pos h, if_pos hb]
      · rw [if_neg h, if_neg fun z => h (congrArg Prod.snd z)]
        have no' := ext_no (y := (GlaLead.other S (f n).2 (f n).1, j)) no h
        have hl2 := path_len1 lt pe no'
        have := mw_follow lt bd d (ext f n (GlaLead.other S (f n).2 (f n).1, j)) (n + 1) pe no' (by omega) a b (by omega) (by omega)
        rw [extL, ext0] at this
        exact this
theorem way_eq (lt : ∀ m ∈ S.lines, m.1 < m.2) (bd : Bd S) {v i : Nat} (h : isEnd S i v) : wayAt s S v i = GlaLead.wayFrom s S v i :=
  mw_follow lt bd S.lines.length (fun _ => (v, i)) 0 ⟨h, fun k hk => absurd hk (Nat.not_lt_zero k)⟩ (fun k h1 h2 => absurd h1 (by omega)) (by omega) _ _ (by omega) (by omega)
end
end Hl
end PHl33

section PHl34
set_option Elab.async false
set_option linter.all false
set_option maxRecDepth 100000
set_option maxHeartbeats 2000000
namespace Hl
open PySem PySem.Spec PyProof.Rows L2 Evl
open GlaPlan (Pt Plan)
open GlaLead (LeadShop)
section
variable {s : LeadShop} {S : Plan}
/-! ### ways gone to their end -/
structure Run (s : LeadShop) (S : Plan) (f : Nat → St2) (m : Nat) : Prop where
  p : Path s S f m
  no : ∀ k, 0 < k → k ≤ m → (f k).2 ≠ (f 0).2
  fin : nxt s S (f m) = none ∨ nxt s S (f m) = some (f 0)
theorem range_head {α : Type} (g : Nat → α) (n : Nat) : (List.range (n + 1)).map g = g 0 :: (List.range n).map fun k => g (k + 1) := by
  rw [List.range_succ_eq_map, List.map_cons, List.map_map]; rfl
theorem mw_run (lt : ∀ m ∈ S.lines, m.1 < m.2) : ∀ (d : Nat) (f : Nat → St2) (n : Nat), Path s S f n → (∀ k, 0 < k → k ≤ n → (f k).2 ≠ (f 0).2) → S.lines.length - n ≤ d → ∀ a, S.lines.length - n < a →
    ∃ g m, Run s S g m ∧ n ≤ m ∧ (∀ k, k ≤ n → g k = f k) ∧ mw s S (f 0).2 a (f n).1 (f n).2 = (List.range (m - n + 1)).map fun k => g (n + k)
  | 0, f, n, p, no, hd, a, ha => by
    have := path_len1 lt p no; omega
  | d + 1, f, n, p, no, hd, a + 1, ha => by
    have hl := path_len1 lt p no
    rw [mw_cont, cont]
    cases hj : jn s S (f n).2 (GlaLead.other S (f n).2 (f n).1) with
    | none =>
      refine ⟨f, n, ⟨p, no, .inl ?_⟩, Nat.le_refl n, fun _ _ => rfl, ?_⟩
      · rw [nxt, hj]; rfl
      · rw [Nat.sub_self]; rfl
    | some j =>
      have hn : nxt s S (f n) = some (GlaLead.other S (f n).2 (f n).1, j) := by rw [nxt, hj]; rfl
      have pe := p.ext hn
      rw [contO]
      by_cases h : j = (f 0).2
      · have hb := pe.back lt (Nat.le_refl (n + 1)) (by rw [extL, ext0]; exact h)
        rw [extL, ext0] at hb
        rw [if_pos h]
        refine ⟨f, n, ⟨p, no, .inr ?_⟩, Nat.le_refl n, fun _ _ => rfl, ?_⟩
        · rw [hn, hb]
        · rw [Nat.sub_self]; rfl
      · rw [if_neg h]
        have no' := ext_no (y := (GlaLead.other S (f n).2 (f n).1, j)) no h
        have hl2 := path_len1 lt pe no'
        obtain ⟨g, m, r, h1, h2, h3⟩ := mw_run lt d (ext f n (GlaLead.other S (f n).2 (f n).1, j)) (n + 1) pe no' (by omega) a (by omega)
        rw [extL, ext0] at h3
        refine ⟨g, m, r, by omega, fun k hk => ?_, ?_⟩
        · rw [h2 k (by omega)]
          show (if k ≤ n then f k else _) = _
          rw [if_pos hk]
        · rw [h3, show m - n = (m - (n + 1)) + 1 by omega, range_head (fun k => g (n + k)) (m - (n + 1) + 1)]
          congr 1
          · rw [Nat.add_zero, h2 n (by omega)]
            show _ = (if n ≤ n then f n else _)
            rw [if_pos (Nat.le_refl n)]
          · apply List.map_congr_left
            intro k _
            rw [show n + (k + 1) = n + 1 + k by omega]
theorem way_run (lt : ∀ m ∈ S.lines, m.1 < m.2) {v i : Nat} (h : isEnd S i v) : ∃ g m, Run s S g m ∧ g 0 = (v, i) ∧ wayAt s S v i = (List.range (m + 1)).map g := by
  obtain ⟨g, m, r, _, h2, h3⟩ := mw_run (s := s) lt S.lines.length (fun _ => (v, i)) 0 ⟨h, fun k hk => absurd hk (Nat.not_lt_zero k)⟩ (fun k h1 h2 => absurd h1 (by omega)) (by omega) (2 * S.lines.length + 2) (by omega)
  refine ⟨g, m, r, h2 0 (Nat.le_refl 0), ?_⟩
  rw [wayAt, h3]
  simp
theorem mem_run {g : Nat → St2} {m : Nat} {x : St2} : x ∈ (List.range (m + 1)).map g ↔ ∃ k, k ≤ m ∧ g k = x := by
  rw [List.mem_map]
  constructor
  · rintro ⟨k, hk, h⟩
    exact ⟨k, by have := List.mem_range.1 hk; omega, h⟩
  · rintro ⟨k, hk, h⟩
    exact ⟨k, List.mem_range.2 (by omega), h⟩
theorem last_run (g : Nat → St2) (m : Nat) : lastOf ((List.range (m + 1)).map g) = g m := by
  rw [lastOf, List.range_succ, List.map_append, List.map_singleton, List.getLast?_concat]; rfl
/-! ### leads joined, and on -/
inductive Rch (s : LeadShop) (S : Plan) (i : Nat) : Nat → Prop
  | refl : Rch s S i i
  | step {j p k : Nat} : Rch s S i j → jn s S j p = some k → Rch s S i k
theorem Rch.trans {i j k : Nat} (h : Rch s S i j) (h2 : Rch s S j k) : Rch s S i k := by
  induction h2 with
  | refl => exact h
  | step _ q ih => exact ih.step q
theorem Rch.symm {i j : Nat} (h : Rch s S i j) : Rch s S j i := by
  induction h with
  | refl => exact .refl
  | step _ q ih => exact (Rch.refl.step (jn_sym q).1).trans ih
theorem jn_lead {i j p : Nat} (h : jn s S i p = some j) : j ∈ GlaLead.leads S := (List.mem_filter.1 (jn_in (jn_sym h).1)).1
theorem Rch.lead {i j : Nat} (h : Rch s S i j) (hi : i ∈ GlaLead.leads S) : j ∈ GlaLead.leads S := by
  cases h with
  | refl => exact hi
  | step _ q => exact jn_lead q
theorem end_two {i p v : Nat} (h : isEnd S i p) (h2 : isEnd S i v) : p = v ∨ p = GlaLead.other S i v := by
  rw [GlaLead.other]
  obtain ⟨_, h⟩ := h
  obtain ⟨_, h2⟩ := h2
  split <;> omega
theorem Run.sub {f : Nat → St2} {m : Nat} (r : Run s S f m) : ∀ k, k ≤ m → Rch s S (f 0).2 (f k).2
  | 0, _ => .refl
  | k + 1, h => (r.sub k (by omega)).step (nxt_some (r.p.step k (by omega))).1
theorem Run.prev {f : Nat → St2} {m : Nat} (r : Run s S f m) {k : Nat} (h : k < m) : jn s S (f (k + 1)).2 (f (k + 1)).1 = some (f k).2 := by
  obtain ⟨h1, h2⟩ := nxt_some (r.p.step k h)
  rw [h2]; exact (jn_sym h1).1
theorem Run.prev0 {f : Nat → St2} {m : Nat} (h : nxt s S (f m) = some (f 0)) : jn s S (f 0).2 (f 0).1 = some (f m).2 := by
  obtain ⟨h1, h2⟩ := nxt_some h
  rw [h2]; exact (jn_sym h1).1
theorem nxt_of {x : St2} {q : Nat} (h : jn s S x.2 (GlaLead.other S x.2 x.1) = some q) : nxt s S x = some (GlaLead.other S x.2 x.1, q) := by rw [nxt, h]; rfl
theorem Run.adj {f : Nat → St2} {m : Nat} (r : Run s S f m) {k : Nat} (hk : k ≤ m) {p q : Nat} (h : jn s S (f k).2 p = some q) : (∃ k', k' ≤ m ∧ (f k').2 = q) ∨ (k = 0 ∧ p = (f 0).1) := by
  rcases end_two (jn_end h).1 (r.p.end_ k hk) with e | e
  · match k, hk with
    | 0, _ => exact .inr ⟨rfl, e⟩
    | k + 1, hk =>
      left
      have := r.prev (k := k) (by omega)
      rw [e, this] at h
      exact ⟨k, by omega, Option.some.inj h⟩
  · left
    rw [e] at h
    have hn := nxt_of h
    rcases Nat.lt_or_ge k m with z | z
    · rw [r.p.step k z] at hn
      exact ⟨k + 1, z, by rw [Option.some.inj hn]⟩
    · have hkm : k = m := by omega
      rw [hkm] at hn
      rcases r.fin with y | y
      · rw [y] at hn; cases hn
      · rw [y] at hn
        exact ⟨0, by omega, by rw [Option.some.inj hn]⟩
theorem Run.all {f : Nat → St2} {m : Nat} (r : Run s S f m) (full : nxt s S (f m) = none → jn s S (f 0).2 (f 0).1 = none) {j : Nat} (h : Rch s S (f 0).2 j) : ∃ k, k ≤ m ∧ (f k).2 = j := by
  induction h with
  | refl => exact ⟨0, Nat.zero_le _, rfl⟩
  | step _ q ih =>
    obtain ⟨k, hk, rfl⟩ := ih
    rcases r.adj hk q with z | ⟨z1, z2⟩
    · exact z
    · rw [z1, z2] at q
      rcases r.fin with y | y
      · rw [full y] at q; cases q
      · have := Run.prev0 y
        rw [q] at this
        exact ⟨m, Nat.le_refl m, (Option.some.inj this).symm⟩
theorem Run.mem {f : Nat → St2} {m : Nat} (r : Run s S f m) (full : nxt s S (f m) = none → jn s S (f 0).2 (f 0).1 = none) (j : Nat) : Rch s S (f 0).2 j ↔ ∃ k, k ≤ m ∧ (f k).2 = j :=
  ⟨r.all full, fun ⟨k, hk, h⟩ => h ▸ r.sub k hk⟩
/-- where a strip ends -/
def Stt (s : LeadShop) (S : Plan) (l : Nat) (x : St2) : Prop := Rch s S l x.2 ∧ isEnd S x.2 x.1 ∧ jn s S x.2 x.1 = none
theorem Run.two {f : Nat → St2} {m : Nat} (r : Run s S f m) (h0 : jn s S (f 0).2 (f 0).1 = none) {x : St2} (h : Stt s S (f 0).2 x) : x = f 0 ∨ x = rev2 S (f m) := by
  obtain ⟨h1, h2, h3⟩ := h
  obtain ⟨k, hk, e⟩ := r.all (fun _ => h0) h1
  have ek := r.p.end_ k hk
  rw [e] at ek
  rcases end_two h2 ek with q | q
  · left
    match k, hk with
    | 0, _ => exact Prod.ext q e.symm
    | k + 1, hk =>
      have := r.prev (k := k) (by omega)
      rw [e, ← q, h3] at this; cases this
  · right
    rcases Nat.lt_or_ge k m with z | z
    · have := (nxt_some (r.p.step k z)).1
      rw [e, ← q, h3] at this; cases this
    · have hkm : k = m := by omega
      rw [hkm] at e q
      refine Prod.ext ?_ e.symm
      rw [q, ← e]; rfl
theorem Run.ring {f : Nat → St2} {m : Nat} (r : Run s S f m) (h : nxt s S (f m) = some (f 0)) {x : St2} : ¬ Stt s S (f 0).2 x := by
  rintro ⟨h1, h2, h3⟩
  obtain ⟨k, hk, e⟩ := r.all (fun z => by rw [h] at z; cases z) h1
  have ek := r.p.end_ k hk
  rw [e] at ek
  rcases end_two h2 ek with q | q
  · match k, hk with
    | 0, _ =>
      have := Run.prev0 h
      rw [e, ← q, h3] at this; cases this
    | k + 1, hk =>
      have := r.prev (k := k) (by omega)
      rw [e, ← q, h3] at this; cases this
  · rcases Nat.lt_or_ge k m with z | z
    · have := (nxt_some (r.p.step k z)).1
      rw [e, ← q, h3] at this; cases this
    · have hkm : k = m := by omega
      rw [hkm] at e q
      have := (nxt_some h).1
      rw [e, ← q, h3] at this; cases this
theorem Stt.of {l l' : Nat} {x : St2} (h : Stt s S l x) (r : Rch s S l l') : Stt s S l' x := ⟨r.symm.trans h.1, h.2⟩
theorem nxt_none {x : St2} (h : nxt s S x = none) : jn s S x.2 (GlaLead.other S x.2 x.1) = none := by
  rw [nxt] at h
  cases e : jn s S x.2 (GlaLead.other S x.2 x.1) with
  | none => rfl
  | some j => rw [e] at h; cases h
theorem Run.stt {f : Nat → St2} {m : Nat} (lt : ∀ m ∈ S.lines, m.1 < m.2) (r : Run s S f m) (h : nxt s S (f m) = none) : Stt s S (f 0).2 (rev2 S (f m)) := by
  have e := r.p.end_ m (Nat.le_refl m)
  exact ⟨r.sub m (Nat.le_refl m), (oth_end lt e).1, nxt_none h⟩
/-! ### the least of a row -/
theorem io_head {L : List St2} : (GlaPlan.inOrder GlaLead.endBefore L = [] ∧ L = []) ∨ ∃ e r, GlaPlan.inOrder GlaLead.endBefore L = e :: r ∧ e ∈ L ∧ ∀ x ∈ L, GlaPlan.lineBelow x e = false := by
  have hp := inOrder_perm GlaLead.endBefore L
  have ec : GlaPlan.inOrder GlaLead.endBefore L = GlaPlan.inOrder (ltK fun x : St2 => (((x.1 : Int), (x.2 : Int), (0 : Int)) : Z3)) L := by
    refine inOrder_congr fun x _ y _ => ?_
    rw [GlaLead.endBefore, ltK, Bool.eq_iff_iff, lex3_iff, GlaPlan.lineBelow]
    simp only [Bool.or_eq_true, Bool.and_eq_true, decide_eq_true_eq, beq_iff_eq]
    omega
  have hs := inOrder_srt (fun x : St2 => (((x.1 : Int), (x.2 : Int), (0 : Int)) : Z3)) L
  rw [← ec] at hs
  generalize GlaPlan.inOrder GlaLead.endBefore L = M at *
  cases M with
  | nil => exact .inl ⟨rfl, List.nil_perm.1 hp⟩
  | cons e r =>
    right
    refine ⟨e, r, rfl, hp.mem_iff.1 List.mem_cons_self, fun x hx => ?_⟩
    rcases List.mem_cons.1 (hp.mem_iff.2 hx) with q | q
    · rw [q, GlaPlan.lineBelow]; simp
    · have := (List.pairwise_cons.1 hs).1 x q
      rw [Bool.eq_false_iff] at this ⊢
      intro z
      refine this (lex3_iff.2 ?_)
      simp only [GlaPlan.lineBelow, Bool.or_eq_true, Bool.and_eq_true, decide_eq_true_eq, beq_iff_eq] at z
      simp only
      omega
theorem lb_anti {x y : St2} (h1 : GlaPlan.lineBelow x y = false) (h2 : GlaPlan.lineBelow y x = false) : x = y := by
  simp only [GlaPlan.lineBelow, Bool.or_eq_false_iff, Bool.and_eq_false_iff, decide_eq_false_iff_not, beq_eq_false_iff_ne] at h1 h2
  exact Prod.ext (by omega) (by omega)
theorem mem_ends (bd : Bd S) {x : St2} : x ∈ GlaLead.ends s S ↔ x.2 ∈ GlaLead.leads S ∧ isEnd S x.2 x.1 ∧ jn s S x.2 x.1 = none := by
  rw [GlaLead.ends, List.mem_flatMap]
  constructor
  · rintro ⟨i, hi, h⟩
    obtain ⟨v, hv, q⟩ := List.mem_filterMap.1 h
    split at q
    · rename_i hn
      obtain rfl := Option.some.inj q
      rw [← jn_onward bd] at hn
      refine ⟨hi, ⟨leads_lt hi, ?_⟩, by cases e : jn s S i v with
        | none => rfl
        | some _ => rw [e] at hn; cases hn⟩
      simp only [List.mem_cons, List.not_mem_nil, or_false] at hv
      rcases hv with z | z
      · exact .inl z.symm
      · exact .inr z.symm
    · cases q
  · rintro ⟨h1, ⟨_, h2⟩, h3⟩
    refine ⟨x.2, h1, List.mem_filterMap.2 ⟨x.1, ?_, ?_⟩⟩
    · rcases h2 with z | z
      · rw [← z]; exact List.mem_cons_self
      · rw [← z]; exact List.mem_cons_of_mem _ List.mem_cons_self
    · rw [← jn_onward bd, h3]; rfl
end
end Hl
end PHl34

section PHl35
set_option Elab.async false
set_option linter.all false
set_option maxRecDepth 100000
set_option maxHeartbeats 2000000
namespace Hl
open PySem PySem.Spec PyProof.Rows L2 Evl
open GlaPlan (Pt Plan)
open GlaLead (LeadShop)
section
variable {s : LeadShop} {S : Plan}
theorem both_iff {fa fb : Nat → St2} {ma mb l l1 l2 : Nat} (ra : Run s S fa ma) (rb : Run s S fb mb) (ha : fa 0 = (l1, l)) (hb : fb 0 = (l2, l)) (ne : l1 ≠ l2) {j : Nat} :
    ((∃ k, k ≤ ma ∧ (fa k).2 = j) ∨ (∃ k, k ≤ mb ∧ (fb k).2 = j)) ↔ Rch s S l j := by
  constructor
  · rintro (⟨k, hk, h⟩ | ⟨k, hk, h⟩)
    · have := ra.sub k hk
      rw [ha, h] at this; exact this
    · have := rb.sub k hk
      rw [hb, h] at this; exact this
  · intro h
    induction h with
    | refl => exact .inl ⟨0, Nat.zero_le _, by rw [ha]⟩
    | @step j' p' k' _ q ih =>
      rcases ih with ⟨k, hk, e⟩ | ⟨k, hk, e⟩
      · rw [← e] at q
        rcases ra.adj hk q with z | ⟨z1, z2⟩
        · exact .inl z
        · rw [z1, z2, ha] at q
          have q2 : jn s S (fb 0).2 l1 = some k' := by rw [hb]; exact q
          rcases rb.adj (Nat.zero_le mb) q2 with z | ⟨_, z⟩
          · exact .inr z
          · rw [hb] at z; exact absurd z ne
      · rw [← e] at q
        rcases rb.adj hk q with z | ⟨z1, z2⟩
        · exact .inr z
        · rw [z1, z2, hb] at q
          have q2 : jn s S (fa 0).2 l2 = some k' := by rw [ha]; exact q
          rcases ra.adj (Nat.zero_le ma) q2 with z | ⟨_, z⟩
          · exact .inl z
          · rw [ha] at z; exact absurd z.symm ne
theorem strip_cases (lt : ∀ m ∈ S.lines, m.1 < m.2) (bd : Bd S) {l : Nat} (hl : l ∈ GlaLead.leads S) :
    (∃ e : St2, Stt s S l e ∧ (∀ x, Stt s S l x → GlaPlan.lineBelow x e = false) ∧ GlaLead.stripOf s S l = wayAt s S e.1 e.2) ∨
    ((∀ x, ¬ Stt s S l x) ∧ ∃ e : St2, Rch s S l e.2 ∧ isEnd S e.2 e.1 ∧ GlaPlan.lineBelow ((GlaLead.lineOf S l).1, l) e = false ∧ GlaLead.stripOf s S l = wayAt s S e.1 e.2) := by
  have h0 := leads_lt hl
  have e1 : isEnd S l (GlaLead.lineOf S l).1 := ⟨h0, .inl rfl⟩
  have e2 : isEnd S l (GlaLead.lineOf S l).2 := ⟨h0, .inr rfl⟩
  have hne := lt _ (List.mem_of_getElem? (lineOf_get h0))
  obtain ⟨fa, ma, ra, ha, wa⟩ := way_run (s := s) lt e1
  obtain ⟨fb, mb, rb, hb, wb⟩ := way_run (s := s) lt e2
  rw [way_eq lt bd e1] at wa
  rw [way_eq lt bd e2] at wb
  have hbo := fun j => both_iff (j := j) ra rb ha hb (Nat.ne_of_lt hne)
  have hu : GlaLead.stripOf s S l = (match GlaPlan.inOrder GlaLead.endBefore ((GlaLead.ends s S).filter fun (e : Nat × Nat) => ((GlaLead.wayFrom s S (GlaLead.lineOf S l).1 l).map (fun (x : Nat × Nat) => x.2) ++ (GlaLead.wayFrom s S (GlaLead.lineOf S l).2 l).map fun (x : Nat × Nat) => x.2).contains e.2) with
    | e :: _ => GlaLead.wayFrom s S e.1 e.2
    | [] => match GlaPlan.inOrder GlaLead.endBefore (GlaLead.wayFrom s S (GlaLead.lineOf S l).1 l ++ (GlaLead.wayFrom s S (GlaLead.lineOf S l).1 l).map fun (x : Nat × Nat) => (GlaLead.other S x.2 x.1, x.2)) with
      | e :: _ => GlaLead.wayFrom s S e.1 e.2
      | [] => []) := rfl
  rw [wa, wb] at hu
  rw [hu]
  clear hu
  generalize hE : ((GlaLead.ends s S).filter fun (e : Nat × Nat) => (((List.range (ma + 1)).map fa).map (fun (x : Nat × Nat) => x.2) ++ ((List.range (mb + 1)).map fb).map fun (x : Nat × Nat) => x.2).contains e.2) = E
  have hEm : ∀ x, x ∈ E ↔ Stt s S l x := by
    intro x
    rw [← hE, List.mem_filter, mem_ends bd, List.contains_iff_mem, List.mem_append, List.mem_map, List.mem_map]
    have k : ((∃ a, a ∈ (List.range (ma + 1)).map fa ∧ a.2 = x.2) ∨ ∃ a, a ∈ (List.range (mb + 1)).map fb ∧ a.2 = x.2) ↔ Rch s S l x.2 := by
      rw [← hbo]
      constructor
      · rintro (⟨a, h, e⟩ | ⟨a, h, e⟩)
        · obtain ⟨k, hk, rfl⟩ := mem_run.1 h; exact .inl ⟨k, hk, e⟩
        · obtain ⟨k, hk, rfl⟩ := mem_run.1 h; exact .inr ⟨k, hk, e⟩
      · rintro (⟨k, hk, e⟩ | ⟨k, hk, e⟩)
        · exact .inl ⟨_, mem_run.2 ⟨k, hk, rfl⟩, e⟩
        · exact .inr ⟨_, mem_run.2 ⟨k, hk, rfl⟩, e⟩
    rw [k]
    exact ⟨fun ⟨⟨_, b, c⟩, d⟩ => ⟨d, b, c⟩, fun ⟨a, b, c⟩ => ⟨⟨a.lead hl, b, c⟩, a⟩⟩
  rcases io_head (L := E) with ⟨h, he⟩ | ⟨e, r, h, he, hm⟩
  · right
    rw [h]
    simp only
    have hno : ∀ x, ¬ Stt s S l x := fun x hx => by
      have := (hEm x).2 hx
      rw [he] at this; cases this
    refine ⟨hno, ?_⟩
    rcases io_head (L := (List.range (ma + 1)).map fa ++ ((List.range (ma + 1)).map fa).map fun (x : Nat × Nat) => (GlaLead.other S x.2 x.1, x.2)) with ⟨_, he⟩ | ⟨e, r, h, he, hm⟩
    · rw [range_head] at he; cases he
    · rw [h]
      simp only
      have hin : Rch s S l e.2 ∧ isEnd S e.2 e.1 := by
        rcases List.mem_append.1 he with q | q
        · obtain ⟨k, hk, rfl⟩ := mem_run.1 q
          have := ra.sub k hk
          rw [ha] at this
          exact ⟨this, ra.p.end_ k hk⟩
        · obtain ⟨x, qx, rfl⟩ := List.mem_map.1 q
          obtain ⟨k, hk, rfl⟩ := mem_run.1 qx
          have := ra.sub k hk
          rw [ha] at this
          exact ⟨this, (oth_end lt (ra.p.end_ k hk)).1⟩
      refine ⟨e, hin.1, hin.2, ?_, (way_eq lt bd hin.2).symm⟩
      exact hm _ (List.mem_append_left _ (mem_run.2 ⟨0, Nat.zero_le _, ha⟩))
  · left
    rw [h]
    simp only
    have hs := (hEm e).1 he
    exact ⟨e, hs, fun x hx => hm x ((hEm x).2 hx), (way_eq lt bd hs.2.1).symm⟩
theorem strip_mem (lt : ∀ m ∈ S.lines, m.1 < m.2) (bd : Bd S) {l : Nat} (hl : l ∈ GlaLead.leads S) : ∃ f m, Run s S f m ∧ GlaLead.stripOf s S l = (List.range (m + 1)).map f ∧ ∀ j, Rch s S l j ↔ ∃ k, k ≤ m ∧ (f k).2 = j := by
  rcases strip_cases (s := s) lt bd hl with ⟨e, he, _, hw⟩ | ⟨hno, e, he, hi, _, hw⟩
  · obtain ⟨f, m, r, f0, w⟩ := way_run (s := s) lt he.2.1
    refine ⟨f, m, r, by rw [hw, w], fun j => ?_⟩
    rw [← r.mem (fun _ => by rw [f0]; exact he.2.2), f0]
    exact ⟨fun h => he.1.symm.trans h, fun h => he.1.trans h⟩
  · obtain ⟨f, m, r, f0, w⟩ := way_run (s := s) lt hi
    refine ⟨f, m, r, by rw [hw, w], fun j => ?_⟩
    rw [← r.mem (fun h => ?_), f0]
    · exact ⟨fun h => he.symm.trans h, fun h => he.trans h⟩
    · have := r.stt lt h
      rw [f0] at this
      exact absurd (this.of he.symm) (hno _)
def Lst (s : LeadShop) (S : Plan) (l : Nat) : Prop := ∀ j, Rch s S l j → l ≤ j
theorem sol_eq (lt : ∀ m ∈ S.lines, m.1 < m.2) (bd : Bd S) (srt : ∀ i j, i ≤ j → j < S.lines.length → (GlaLead.lineOf S i).1 ≤ (GlaLead.lineOf S j).1) {l : Nat} (hl : l ∈ GlaLead.leads S) (least : Lst s S l) : solOf s S l = GlaLead.stripOf s S l := by
  have h0 := leads_lt hl
  have e1 : isEnd S l (GlaLead.lineOf S l).1 := ⟨h0, .inl rfl⟩
  obtain ⟨f, m, r, f0, w⟩ := way_run (s := s) lt e1
  rw [solOf, w, last_run, sol2]
  have sc := strip_cases (s := s) lt bd hl
  by_cases hj : (jn s S (f m).2 (GlaLead.other S (f m).2 (f m).1)).isSome = true
  · rw [if_pos hj]
    have hn : nxt s S (f m) = some (f 0) := by
      rcases r.fin with y | y
      · rw [nxt_none y] at hj; cases hj
      · exact y
    rcases sc with ⟨e, he, _, _⟩ | ⟨_, e, he, hi, hb, hw⟩
    · refine absurd (he.of ?_) (r.ring hn)
      rw [f0]; exact .refl
    · have h1 := least _ he
      have h2 := srt l e.2 h1 hi.1
      have h3 : (GlaLead.lineOf S e.2).1 ≤ e.1 := by
        have := lt _ (List.mem_of_getElem? (lineOf_get hi.1))
        rcases hi.2 with z | z <;> omega
      have : e = ((GlaLead.lineOf S l).1, l) := by
        refine lb_anti ?_ hb
        simp only [GlaPlan.lineBelow, Bool.or_eq_false_iff, Bool.and_eq_false_iff, decide_eq_false_iff_not, beq_eq_false_iff_ne]
        omega
      rw [hw, this, w]
  · rw [if_neg hj]
    have hn : nxt s S (f m) = none := by
      rcases r.fin with y | y
      · exact y
      · rw [(nxt_some y).1] at hj; exact absurd rfl hj
    have s1 := r.stt lt hn
    rw [f0] at s1
    replace s1 : Stt s S l (rev2 S (f m)) := s1
    obtain ⟨g, n, rg, g0, wg⟩ := way_run (s := s) (v := GlaLead.other S (f m).2 (f m).1) (i := (f m).2) lt s1.2.1
    replace g0 : g 0 = rev2 S (f m) := g0
    have gno : jn s S (g 0).2 (g 0).1 = none := by rw [g0]; exact s1.2.2
    have gn : nxt s S (g n) = none := by
      rcases rg.fin with y | y
      · exact y
      · rw [Run.prev0 y] at gno; cases gno
    have s2 := rg.stt lt gn
    have hr : Rch s S l (g 0).2 := by rw [g0]; exact s1.1
    replace s2 : Stt s S l (rev2 S (g n)) := s2.of hr.symm
    rw [wg, last_run, sol3]
    rcases sc with ⟨e, he, hm, hw⟩ | ⟨hno, _⟩
    · have hb : before2 (GlaLead.other S (g n).2 (g n).1) (g n).2 (GlaLead.other S (f m).2 (f m).1) (f m).2 = GlaPlan.lineBelow (rev2 S (g n)) (rev2 S (f m)) := by
        rw [before2, GlaPlan.lineBelow, rev2, rev2, Bool.eq_iff_iff]; simp
      rw [hb]
      have htwo := rg.two gno (he.of hr)
      have k1 := hm _ s1
      have k2 := hm _ s2
      split
      · rename_i hc
        rcases htwo with z | z
        · rw [z, g0, hc] at k2; cases k2
        · rw [hw, z]; rfl
      · rename_i hc
        have hc : GlaPlan.lineBelow (rev2 S (g n)) (rev2 S (f m)) = false := by simpa using hc
        have : e = g 0 := by
          rcases htwo with z | z
          · exact z
          · rw [z] at k1
            rw [z, g0]
            exact lb_anti hc k1
        rw [hw, this, ← wg, g0]; rfl
    · exact absurd s1 (hno _)
theorem all_least (lt : ∀ m ∈ S.lines, m.1 < m.2) (bd : Bd S) {l : Nat} (hl : l ∈ GlaLead.leads S) : (GlaLead.stripOf s S l).all (fun (x : Nat × Nat) => decide (l ≤ x.2)) = true ↔ Lst s S l := by
  obtain ⟨f, m, r, hw, hm⟩ := strip_mem (s := s) lt bd hl
  rw [hw, List.all_eq_true]
  constructor
  · intro h j hj
    obtain ⟨k, hk, rfl⟩ := (hm j).1 hj
    exact of_decide_eq_true (h _ (mem_run.2 ⟨k, hk, rfl⟩))
  · intro h x hx
    obtain ⟨k, hk, rfl⟩ := mem_run.1 hx
    exact decide_eq_true (h _ ((hm _).2 ⟨k, hk, rfl⟩))
theorem ex_least : ∀ (n l : Nat), l ≤ n → ∃ m, Rch s S l m ∧ Lst s S m
  | n, l, h => by
    by_cases q : Lst s S l
    · exact ⟨l, .refl, q⟩
    · have : ∃ j, Rch s S l j ∧ j < l := by
        refine Classical.byContradiction fun z => q fun j hj => ?_
        exact Nat.le_of_not_lt fun y => z ⟨j, hj, y⟩
      obtain ⟨j, hj, hlt⟩ := this
      match n with
      | 0 => omega
      | n + 1 =>
        obtain ⟨m, h1, h2⟩ := ex_least n j (by omega)
        exact ⟨m, hj.trans h1, h2⟩
theorem leads_inc (S : Plan) : (GlaLead.leads S).Pairwise (· < ·) := List.Pairwise.filter _ List.pairwise_lt_range
structure SInv (s : LeadShop) (S : Plan) (ls : List Nat) (a : List Nat × List (List St2)) : Prop where
  had : ∀ j, j ∈ a.1 ↔ ∃ l ∈ ls, Lst s S l ∧ Rch s S l j
  out : a.2 = (ls.filter fun (i : Nat) => (GlaLead.stripOf s S i).all fun (x : Nat × Nat) => decide (i ≤ x.2)).map (GlaLead.stripOf s S)
  nd : a.1.Nodup
  flat : a.1 = a.2.flatMap fun w => w.map (·.2)
  ne : ∀ w ∈ a.2, w ≠ []
theorem sfold_inv (lt : ∀ m ∈ S.lines, m.1 < m.2) (bd : Bd S) (srt : ∀ i j, i ≤ j → j < S.lines.length → (GlaLead.lineOf S i).1 ≤ (GlaLead.lineOf S j).1) : ∀ n, n ≤ (GlaLead.leads S).length → SInv s S ((GlaLead.leads S).take n) (sfold s S ((GlaLead.leads S).take n))
  | 0, _ => ⟨fun j => by simp [sfold], rfl, List.Pairwise.nil, rfl, fun w h => nomatch h⟩
  | n + 1, hn => by
    have ih := sfold_inv lt bd srt n (by omega)
    have hg : (GlaLead.leads S)[n]? = some ((GlaLead.leads S)[n]'(by omega)) := List.getElem?_eq_getElem (by omega)
    have inc := leads_inc S
    have hsub : ∀ x ∈ (GlaLead.leads S).take n, x ∈ GlaLead.leads S := fun x hx => List.mem_of_mem_take hx
    generalize hll : (GlaLead.leads S)[n]'(by omega) = l at hg
    have hl : l ∈ GlaLead.leads S := List.mem_of_getElem? hg
    have hbef : ∀ x ∈ GlaLead.leads S, x < l → x ∈ (GlaLead.leads S).take n := by
      intro x hx hxl
      obtain ⟨i, hi⟩ := List.mem_iff_getElem?.1 hx
      obtain ⟨h1, h2⟩ := List.getElem?_eq_some_iff.1 hi
      have hin : i < n := by
        refine Nat.lt_of_not_le fun z => ?_
        rcases Nat.lt_or_eq_of_le z with y | y
        · have := List.pairwise_iff_getElem.1 inc n i (by omega) h1 y
          omega
        · subst y; omega
      refine List.mem_iff_getElem?.2 ⟨i, ?_⟩
      rw [List.getElem?_take, if_pos hin]; exact hi
    have haft : ∀ x ∈ (GlaLead.leads S).take n, x < l := by
      intro x hx
      obtain ⟨i, hi⟩ := List.mem_iff_getElem?.1 hx
      rw [List.getElem?_take] at hi
      split at hi
      · rename_i hin
        obtain ⟨h1, h2⟩ := List.getElem?_eq_some_iff.1 hi
        have := List.pairwise_iff_getElem.1 inc i n h1 (by omega) hin
        omega
      · cases hi
    have ht : (GlaLead.leads S).take (n + 1) = (GlaLead.leads S).take n ++ [l] := by rw [List.take_add_one, hg]; rfl
    rw [ht, sfold_snoc]
    clear ht
    generalize (GlaLead.leads S).take n = ls at *
    generalize sfold s S ls = a at *
    obtain ⟨had, out, nd, flat, ne⟩ := ih
    have hal := all_least (s := s) lt bd hl
    rw [sstep]
    by_cases hin : l ∈ a.1
    · rw [if_pos hin]
      obtain ⟨l', h1, h2, h3⟩ := (had l).1 hin
      have hno : ¬ Lst s S l := fun z => by
        have := z l' h3.symm
        have := haft l' h1
        omega
      refine ⟨fun j => ?_, ?_, nd, flat, ne⟩
      · rw [had j]
        constructor
        · rintro ⟨q, a1, a2⟩
          exact ⟨q, List.mem_append_left _ a1, a2⟩
        · rintro ⟨q, a1, a2, a3⟩
          rcases List.mem_append.1 a1 with z | z
          · exact ⟨q, z, a2, a3⟩
          · rw [List.mem_singleton.1 z] at a2
            exact absurd a2 hno
      · rw [List.filter_append, List.filter_cons_of_neg (by rw [hal]; exact hno), List.filter_nil, List.append_nil]
        exact out
    · rw [if_neg hin]
      have hyes : Lst s S l := by
        intro j hj
        refine Nat.le_of_not_lt fun z => hin ?_
        obtain ⟨m, m1, m2⟩ := ex_least (s := s) (S := S) j j (Nat.le_refl j)
        have m3 := m2 j m1.symm
        have m4 : Rch s S l m := hj.trans m1
        exact (had l).2 ⟨m, hbef m (m4.lead hl) (by omega), m2, m4.symm⟩
      rw [sol_eq lt bd srt hl hyes]
      obtain ⟨f, m, r, hw, hm⟩ := strip_mem (s := s) lt bd hl
      have hmw : ∀ j, j ∈ (GlaLead.stripOf s S l).map (·.2) ↔ Rch s S l j := by
        intro j
        rw [hm j, hw, List.mem_map]
        constructor
        · rintro ⟨x, hx, e⟩
          obtain ⟨k, hk, rfl⟩ := mem_run.1 hx
          exact ⟨k, hk, e⟩
        · rintro ⟨k, hk, e⟩
          exact ⟨_, mem_run.2 ⟨k, hk, rfl⟩, e⟩
      refine ⟨fun j => ?_, ?_, ?_, ?_, ?_⟩
      · simp only
        rw [List.mem_append, had j, hmw j]
        constructor
        · rintro (⟨q, a1, a2⟩ | h)
          · exact ⟨q, List.mem_append_left _ a1, a2⟩
          · exact ⟨l, List.mem_append_right _ (List.mem_singleton.2 rfl), hyes, h⟩
        · rintro ⟨q, a1, a2, a3⟩
          rcases List.mem_append.1 a1 with z | z
          · exact .inl ⟨q, z, a2, a3⟩
          · rw [List.mem_singleton.1 z] at a3
            exact .inr a3
      · simp only
        rw [List.filter_append, List.filter_cons_of_pos (by rw [hal]; exact hyes), List.filter_nil, List.map_append, ← out]; rfl
      · simp only
        rw [List.nodup_append]
        refine ⟨nd, ?_, ?_⟩
        · rw [hw, List.map_map]
          exact Geo.nodup_range_map fun i j h1 h2 => path_leads lt r.p r.no i j h1 (by omega)
        · intro x hx y hy
          rintro rfl
          obtain ⟨l', h1, h2, h3⟩ := (had x).1 hx
          have h4 := (hmw x).1 hy
          exact hin ((had l).2 ⟨l', h1, h2, h3.trans h4.symm⟩)
      · simp only
        rw [List.flatMap_append, ← flat]
        congr 1
        simp
      · intro w hw2
        rcases List.mem_append.1 hw2 with z | z
        · exact ne w z
        · rw [List.mem_singleton.1 z, hw, range_head]
          exact List.cons_ne_nil _ _
theorem strips_eq (lt : ∀ m ∈ S.lines, m.1 < m.2) (bd : Bd S) (srt : ∀ i j, i ≤ j → j < S.lines.length → (GlaLead.lineOf S i).1 ≤ (GlaLead.lineOf S j).1) : SInv s S (GlaLead.leads S) (sfold s S (GlaLead.leads S)) ∧ (sfold s S (GlaLead.leads S)).2 = GlaLead.strips s S := by
  have := sfold_inv (s := s) lt bd srt (GlaLead.leads S).length (Nat.le_refl _)
  rw [List.take_length] at this
  exact ⟨this, this.out⟩
/-! ### how much -/
theorem rowPts_len (S : Plan) {w : List St2} (h : w ≠ []) : (GlaLead.rowPts S w).length = w.length + 1 := by
  rw [GlaLead.rowPts, List.getLast?_eq_some_getLast h]
  simp
theorem out_len (S : Plan) : ∀ ws : List (List St2), (∀ w ∈ ws, w ≠ []) → ((ws.map (GlaLead.rowPts S)).flatMap outRow).length ≤ 3 * (ws.flatMap fun w => w.map (·.2)).length
  | [], _ => Nat.le_refl _
  | w :: r, h => by
    have ih := out_len S r fun x hx => h x (List.mem_cons_of_mem _ hx)
    have hw := h w List.mem_cons_self
    have h1 := rowPts_len S hw
    have h2 : 0 < w.length := List.length_pos_iff.2 hw
    rw [List.map_cons, List.flatMap_cons, List.flatMap_cons, List.length_append, List.length_append, List.length_map, outRow, List.length_cons, List.length_map, h1]
    omega
theorem out_few : ∀ ws : List (List St2), (∀ w ∈ ws, w ≠ []) → ws.length ≤ (ws.flatMap fun w => w.map (·.2)).length
  | [], _ => Nat.le_refl _
  | w :: r, h => by
    have ih := out_few r fun x hx => h x (List.mem_cons_of_mem _ hx)
    have h2 : 0 < w.length := List.length_pos_iff.2 (h w List.mem_cons_self)
    rw [List.flatMap_cons, List.length_append, List.length_map, List.length_cons]
    omega
theorem size_ok (lt : ∀ m ∈ S.lines, m.1 < m.2) (bd : Bd S) (srt : ∀ i j, i ≤ j → j < S.lines.length → (GlaLead.lineOf S i).1 ≤ (GlaLead.lineOf S j).1) (nl : S.lines.length ≤ 8192) : (outAll (rowsOf s S)).length ≤ 90000 := by
  obtain ⟨h, _⟩ := strips_eq (s := s) lt bd srt
  have h1 : (sfold s S (GlaLead.leads S)).1.length ≤ S.lines.length := by
    have := Geo.sub_len (m := List.range S.lines.length) h.nd fun j hj => by
      obtain ⟨l, a, b, c⟩ := (h.had j).1 hj
      exact List.mem_range.2 (leads_lt (c.lead a))
    simpa using this
  have h2 := out_len S _ h.ne
  rw [← h.flat] at h2
  rw [outAll, rowsOf, List.length_cons, List.length_cons]
  omega
theorem deg_ok (g : GN S) (few : S.pts.length ≤ 200) (inj : ∀ i j, i < S.lines.length → j < S.lines.length → GlaLead.lineOf S i = GlaLead.lineOf S j → i = j) (v : Nat) : (GlaLead.leadsAt S v).length ≤ 300 := by
  have nd : ((GlaLead.leadsAt S v).map fun i => GlaLead.other S i v).Nodup := by
    refine List.pairwise_map.2 ((leadsAt_nodup S v).imp_of_mem fun {a b} ha hb hne z => hne ?_)
    obtain ⟨a1, a2⟩ := leadsAt_end ha
    obtain ⟨b1, b2⟩ := leadsAt_end hb
    have la := g.lt _ (List.mem_of_getElem? (lineOf_get a1))
    have lb := g.lt _ (List.mem_of_getElem? (lineOf_get b1))
    refine inj a b a1 b1 ?_
    rw [GlaLead.other, GlaLead.other] at z
    refine Prod.ext ?_ ?_
    · split at z <;> split at z <;> omega
    · split at z <;> split at z <;> omega
  have := Geo.sub_len (m := List.range S.pts.length) nd fun x hx => by
    obtain ⟨i, hi, rfl⟩ := List.mem_map.1 hx
    obtain ⟨a1, a2⟩ := leadsAt_end hi
    have := g.inp _ (List.mem_of_getElem? (lineOf_get a1))
    refine List.mem_range.2 ?_
    rw [GlaLead.other]
    split
    · exact this.2
    · exact this.1
  rw [List.length_map, List.length_range] at this
  omega
end
end Hl
end PHl35

section PHl36
set_option Elab.async false
set_option linter.all false
set_option maxRecDepth 100000
set_option maxHeartbeats 2000000
namespace Hl
open PySem PySem.Spec PyProof.Rows L2 Evl
open GlaPlan (Pt Plan)
open GlaLead (LeadShop)
section
variable {S : Plan}
/-! ### the first fault -/
theorem e4 (S : Plan) : GlaPlan.firstBad (fun (p : Pt) => decide (p.x ≤ S.w) && decide (p.y ≤ S.h)) Pt.below S.pts = Geo.fa0 (badPt S) 0 S.pts := by
  rw [Geo.firstBad_eq]
  congr 1
  funext i x
  show _ = badPt S i x
  rw [badPt, okPt]
  cases S.pts[i - 1]? <;> rfl
theorem e5 (S : Plan) : GlaPlan.firstBad (fun (l : Nat × Nat) => decide (l.1 < l.2) && decide (l.2 < S.pts.length)) GlaPlan.lineBelow S.lines = Geo.fa0 (badLn S) 0 S.lines := by
  rw [Geo.firstBad_eq]
  congr 1
  funext i x
  show _ = badLn S i x
  rw [badLn, okLn]
  cases S.lines[i - 1]? <;> rfl
theorem fa0_map {α β : Type} (g : α → β) (p : Nat → β → Bool) : ∀ (l : List α) (i : Nat), Geo.fa0 p i (l.map g) = Geo.fa0 (fun i x => p i (g x)) i l
  | [], _ => rfl
  | x :: r, i => by
    rw [List.map_cons, Geo.fa0, Geo.fa0, fa0_map g p r]
theorem e11 (S : Plan) : GlaPlan.firstBad (GlaPlan.markOk S) GlaPlan.markBelow S.marks = Geo.fa0 (badZ S (atsOf S)) 0 (atsOf S) := by
  rw [Geo.firstBad_eq]
  show _ = Geo.fa0 (badZ S (atsOf S)) 0 (S.marks.map fun m => m.at_)
  rw [fa0_map]
  congr 1
  funext i x
  rw [badZ, atsOf, List.getElem?_map]
  cases S.marks[i - 1]? <;> rfl
theorem clear_all {S : Plan} (h : Geo.fa0 (badZ S (atsOf S)) 0 (atsOf S) = none) : ∀ m ∈ S.marks, GlaPlan.clear S m.at_ = true := by
  intro m hm
  obtain ⟨i, hi⟩ := List.mem_iff_getElem?.1 hm
  have := Geo.fa0_none _ _ 0 h i m.at_ (by rw [atsOf, List.getElem?_map, hi]; rfl)
  rw [badZ, Bool.or_eq_false_iff] at this
  simpa using this.1
def asF (x : Nat × Nat) : GlaBase.Fault := ⟨x.1, x.2⟩
theorem fault_eq (d : Dm S) : S.fault = (fsOf 4 (drawVals S)).map asF := by
  rw [drawVals]
  unfold GlaPlan.Plan.fault
  rw [e4]
  cases h4 : Geo.fa0 (badPt S) 0 S.pts with
  | some i =>
    have p4 : fPoint S = some (GlaPlan.ptPlace i) := by rw [fPoint, h4]; rfl
    rw [p4]; rfl
  | none =>
  have p4 : fPoint S = none := by rw [fPoint, h4]; rfl
  rw [p4, e5]
  cases h5 : Geo.fa0 (badLn S) 0 S.lines with
  | some i =>
    have p5 : fLine S = some (GlaPlan.linePlace S i) := by rw [fLine, h5]; rfl
    rw [p5]; rfl
  | none =>
  have p5 : fLine S = none := by rw [fLine, h5]; rfl
  rw [p5]
  simp only
  cases h6 : GlaPlan.frameOk S with
  | false =>
    have p6 : fFrame S = some 20 := by rw [fFrame, ← frameOk_eq, h6]; rfl
    rw [p6, if_pos rfl]; rfl
  | true =>
  have p6 : fFrame S = none := by rw [fFrame, ← frameOk_eq, h6]; rfl
  rw [p6, if_neg (by decide), Geo.firstAt_eq]
  cases h7 : Geo.fa0 (GlaPlan.touches S) 0 S.lines with
  | some i =>
    have p7 : fCross S = some (GlaPlan.linePlace S i) := by rw [fCross, h7]; rfl
    rw [p7]; rfl
  | none =>
  have p7 : fCross S = none := by rw [fCross, h7]; rfl
  rw [p7]
  simp only
  cases h8 : (List.range S.pts.length).find? fun (i : Nat) => decide ((S.near i).length < 2) with
  | some i =>
    have p8 : fLoose S = some (GlaPlan.ptPlace i) := by rw [fLoose, h8]; rfl
    rw [p8]; rfl
  | none =>
  have p8 : fLoose S = none := by rw [fLoose, h8]; rfl
  rw [p8]
  simp only
  cases h9 : (List.range S.pts.length).find? fun (i : Nat) => !((GlaPlan.seenFrom S.nears S.pts.length 0 (GlaPlan.noneSeen S.pts.length)).getD i false) with
  | some i =>
    have p9 : fIsland S = some (GlaPlan.ptPlace i) := by rw [fIsland, h9]; rfl
    rw [p9]; rfl
  | none =>
  have p9 : fIsland S = none := by rw [fIsland, h9]; rfl
  rw [p9]
  simp only
  cases h10 : (List.range S.pts.length).find? (GlaPlan.cuts S.nears S.pts.length) with
  | some i =>
    have p10 : fHinge S = some (GlaPlan.ptPlace i) := by rw [fHinge, h10]; rfl
    rw [p10]; rfl
  | none =>
  have p10 : fHinge S = none := by rw [fHinge, h10]; rfl
  have F := framed_ofV d p4 p5 p6 p7 p8 p9 p10
  rw [p10, e11]
  simp only
  cases h11 : Geo.fa0 (badZ S (atsOf S)) 0 (atsOf S) with
  | some i =>
    have p11 : fMark S = some (GlaPlan.markPlace S i) := by rw [fMark, h11]; rfl
    rw [p11]; rfl
  | none =>
  have p11 : fMark S = none := by rw [fMark, h11]; rfl
  rw [p11]
  simp only
  rw [Geo.twice_idx F (clear_all h11)]
  cases h12 : Geo.dup 0 [] (S.marks.map fun m => Geo.paneIdx S m.at_) with
  | some i =>
    have p12 : fSecond S = some (GlaPlan.markPlace S i) := by rw [fSecond, h12]; rfl
    rw [p12]; rfl
  | none =>
  have p12 : fSecond S = none := by rw [fSecond, h12]; rfl
  rw [p12]
  simp only
  rw [← Geo.pane_count F.toWhole]
  by_cases h13 : S.marks.length < (Geo.paneRows S).length
  · have p13 : fBare S = some (GlaPlan.markPlace S S.marks.length) := by rw [fBare, if_pos h13]
    rw [p13, if_pos h13]; rfl
  · have p13 : fBare S = none := by rw [fBare, if_neg h13]
    rw [p13, if_neg h13]; rfl
theorem within_eq (a b n : Nat) : GlaPlan.within a b n = !(decide (n < a) || decide (b < n)) := by
  rw [GlaPlan.within, Bool.eq_iff_iff]
  simp only [Bool.and_eq_true, decide_eq_true_eq, Bool.not_eq_true', Bool.or_eq_false_iff, decide_eq_false_iff_not]
  omega
def outJ (b : List UInt8) : Option (Nat × Nat) → Except GlaBase.Fault Plan
  | some x => .error (asF x)
  | none => .ok (GlaPlan.parts b)
theorem judge_eq (b : List UInt8) : GlaPlan.judgePlan b = outJ b (fFirst b) := by
  unfold GlaPlan.judgePlan
  rw [fFirst, byteVals]
  by_cases h1 : b.length < GlaPlan.HEAD
  · have p1 : fSign b = some b.length := by rw [fSign]; exact if_pos h1
    rw [if_pos h1, p1]; rfl
  rw [if_neg h1]
  by_cases h2 : b.take 4 = GlaPlan.MAGIC
  case neg =>
    have p1 : fSign b = some 0 := by
      rw [fSign]
      rw [if_neg (by exact h1), if_neg h2]
    rw [if_pos h2, p1]; rfl
  have p1 : fSign b = none := by
    rw [fSign]
    rw [if_neg (by exact h1), if_pos h2]
  rw [if_neg (by rw [h2]; exact fun z => z rfl), p1]
  have q1 : badHd b (4, 4, 16, 1048575) = !GlaPlan.within GlaPlan.SMALLEST GlaPlan.LARGEST (GlaBase.num b 4 4) := by rw [within_eq, Bool.not_not]; rfl
  have q2 : badHd b (8, 4, 16, 1048575) = !GlaPlan.within GlaPlan.SMALLEST GlaPlan.LARGEST (GlaBase.num b 8 4) := by rw [within_eq, Bool.not_not]; rfl
  have q3 : badHd b (12, 2, 4, 4096) = !GlaPlan.within 4 GlaPlan.POINTS (GlaBase.num b 12 2) := by rw [within_eq, Bool.not_not]; rfl
  have q4 : badHd b (14, 2, 4, 8192) = !GlaPlan.within 4 GlaPlan.LINES (GlaBase.num b 14 2) := by rw [within_eq, Bool.not_not]; rfl
  have q5 : badHd b (16, 2, 1, 2048) = !GlaPlan.within 1 GlaPlan.MARKS (GlaBase.num b 16 2) := by rw [within_eq, Bool.not_not]; rfl
  have q6 : badHd b (18, 2, 0, 0) = decide (GlaBase.num b 18 2 ≠ 0) := by
    rw [badHd, Bool.eq_iff_iff]; simp; omega
  have hh : fHead b = (hbs.find? (badHd b)).map fun q => q.1 := rfl
  rw [hbs, List.find?_cons, List.find?_cons, List.find?_cons, List.find?_cons, List.find?_cons, List.find?_cons, List.find?_nil, q1, q2, q3, q4, q5, q6] at hh
  cases w1 : GlaPlan.within GlaPlan.SMALLEST GlaPlan.LARGEST (GlaBase.num b 4 4) with
  | false => rw [w1] at hh; rw [hh, if_pos rfl]; rfl
  | true =>
  rw [w1] at hh
  rw [if_neg (by decide)]
  cases w2 : GlaPlan.within GlaPlan.SMALLEST GlaPlan.LARGEST (GlaBase.num b 8 4) with
  | false => rw [w2] at hh; rw [hh, if_pos rfl]; rfl
  | true =>
  rw [w2] at hh
  rw [if_neg (by decide)]
  cases w3 : GlaPlan.within 4 GlaPlan.POINTS (GlaBase.num b 12 2) with
  | false => rw [w3] at hh; rw [hh, if_pos rfl]; rfl
  | true =>
  rw [w3] at hh
  rw [if_neg (by decide)]
  cases w4 : GlaPlan.within 4 GlaPlan.LINES (GlaBase.num b 14 2) with
  | false => rw [w4] at hh; rw [hh, if_pos rfl]; rfl
  | true =>
  rw [w4] at hh
  rw [if_neg (by decide)]
  cases w5 : GlaPlan.within 1 GlaPlan.MARKS (GlaBase.num b 16 2) with
  | false => rw [w5] at hh; rw [hh, if_pos rfl]; rfl
  | true =>
  rw [w5] at hh
  rw [if_neg (by decide)]
  by_cases w6 : GlaBase.num b 18 2 ≠ 0
  · rw [decide_eq_true w6] at hh
    rw [hh, if_pos w6]; rfl
  rw [decide_eq_false w6] at hh
  have p2 : fHead b = none := hh
  rw [p2, if_neg w6]
  by_cases h3 : b.length = sizeAt b
  case neg =>
    have p3 : fSize b = some 20 := by rw [fSize, if_neg h3]
    rw [p3, if_pos (by exact h3)]; rfl
  have p3 : fSize b = none := by rw [fSize, if_pos h3]
  rw [p3, if_neg (by exact fun z => z h3)]
  rw [fault_eq (head_dm p2)]
  show _ = outJ b (match (none : Option (Nat × Nat)) with | some x => some x | none => fsOf 4 (drawVals (GlaPlan.parts b)))
  cases fsOf 4 (drawVals (GlaPlan.parts b)) <;> rfl
/-! ### a cartoon's drawing -/
theorem fsOf_all : ∀ (l : List (Option Nat)) (k : Nat), fsOf k l = none → ∀ o ∈ l, o = none
  | [], _, _, o, h => nomatch h
  | none :: r, k, h, o, ho => by
    rcases List.mem_cons.1 ho with q | q
    · exact q
    · exact fsOf_all r (k + 1) h o q
  | some p :: r, k, h, o, ho => nomatch h
theorem bytes_ok {b : List UInt8} (h : fFirst b = none) : fSign b = none ∧ fHead b = none ∧ fSize b = none ∧ ∀ o ∈ drawVals (GlaPlan.parts b), o = none := by
  rw [fFirst] at h
  cases e : fsOf 1 (byteVals b) with
  | some x => rw [e] at h; cases h
  | none =>
    rw [e] at h
    have h1 := fsOf_all _ _ e
    exact ⟨h1 _ List.mem_cons_self, h1 _ (List.mem_cons_of_mem _ List.mem_cons_self), h1 _ (List.mem_cons_of_mem _ (List.mem_cons_of_mem _ List.mem_cons_self)), fsOf_all _ _ h⟩
theorem bd_of {b : List UInt8} (hh : fHead b = none) (h4 : fPoint (GlaPlan.parts b) = none) : Bd (GlaPlan.parts b) := by
  have h0 : hbs.find? (badHd b) = none := map_none hh
  rw [List.find?_eq_none] at h0
  have k1 := h0 (4, 4, 16, 1048575) (by simp [hbs])
  have k2 := h0 (8, 4, 16, 1048575) (by simp [hbs])
  simp only [badHd, Bool.or_eq_true, decide_eq_true_eq, not_or, Nat.not_lt] at k1 k2
  obtain ⟨a, _⟩ := Geo.firstBad_none (bad4 h4)
  intro i
  by_cases q : i < (GlaPlan.parts b).pts.length
  · have := a i _ (Geo.pt_get q)
    simp only [Bool.and_eq_true, decide_eq_true_eq] at this
    have e1 : (GlaPlan.parts b).w = GlaBase.num b 4 4 := rfl
    have e2 : (GlaPlan.parts b).h = GlaBase.num b 8 4 := rfl
    omega
  · have hp : (GlaPlan.parts b).pt i = ⟨0, 0⟩ := by
      rw [GlaPlan.Plan.pt, List.getD_eq_getElem?_getD, List.getElem?_eq_none (by omega)]; rfl
    rw [hp]
    exact ⟨Nat.zero_le _, Nat.zero_le _⟩
theorem lines_lex {S : Plan} (h : fLine S = none) : ∀ i j, i < j → j < S.lines.length → GlaPlan.lineBelow (GlaLead.lineOf S i) (GlaLead.lineOf S j) = true := by
  obtain ⟨_, b⟩ := Geo.firstBad_none (bad5 h)
  intro i j hij hj
  have := Geo.chain_lt (R := fun x y => GlaPlan.lineBelow x y = true) (fun a b c h1 h2 => by
    simp only [GlaPlan.lineBelow, Bool.or_eq_true, Bool.and_eq_true, decide_eq_true_eq, beq_iff_eq] at *
    omega) b (j - i - 1) i _ _ (lineOf_get (by omega)) (by rw [show i + 1 + (j - i - 1) = j by omega]; exact lineOf_get hj)
  exact this
theorem lines_srt {S : Plan} (h : fLine S = none) : ∀ i j, i ≤ j → j < S.lines.length → (GlaLead.lineOf S i).1 ≤ (GlaLead.lineOf S j).1 := by
  intro i j hij hj
  rcases Nat.lt_or_eq_of_le hij with q | q
  · have := lines_lex h i j q hj
    simp only [GlaPlan.lineBelow, Bool.or_eq_true, Bool.and_eq_true, decide_eq_true_eq, beq_iff_eq] at this
    omega
  · rw [q]; exact Nat.le_refl _
theorem lines_inj {S : Plan} (h : fLine S = none) : ∀ i j, i < S.lines.length → j < S.lines.length → GlaLead.lineOf S i = GlaLead.lineOf S j → i = j := by
  intro i j hi hj e
  rcases Nat.lt_trichotomy i j with q | q | q
  · have := lines_lex h i j q hj
    rw [e] at this
    simp [GlaPlan.lineBelow] at this
  · exact q
  · have := lines_lex h j i q hi
    rw [e] at this
    simp [GlaPlan.lineBelow] at this
/-- what a cartoon's drawing is -/
structure Fine (S : Plan) : Prop where
  dm : Dm S
  gn : GN S
  bd : Bd S
  srt : ∀ i j, i ≤ j → j < S.lines.length → (GlaLead.lineOf S i).1 ≤ (GlaLead.lineOf S j).1
  inj : ∀ i j, i < S.lines.length → j < S.lines.length → GlaLead.lineOf S i = GlaLead.lineOf S j → i = j
theorem fine_of {b : List UInt8} (h : fFirst b = none) : b.length = sizeAt b ∧ Fine (GlaPlan.parts b) := by
  obtain ⟨_, h2, h3, h4⟩ := bytes_ok h
  have d := head_dm h2
  have p4 : fPoint (GlaPlan.parts b) = none := h4 _ (by rw [drawVals]; exact List.mem_cons_self)
  have p5 : fLine (GlaPlan.parts b) = none := h4 _ (by rw [drawVals]; exact List.mem_cons_of_mem _ List.mem_cons_self)
  refine ⟨?_, d, gn_of d p5, bd_of h2 p4, lines_srt p5, lines_inj p5⟩
  refine Classical.byContradiction fun z => ?_
  rw [fSize, if_neg z] at h3; cases h3
theorem refuse_none {s : LeadShop} {b : List UInt8} (h : refuse s b = none) : s.ok = true ∧ b.length ≤ 131072 ∧ fFirst b = none := by
  rw [refuse] at h
  split at h
  · cases h
  · rename_i h1
    split at h
    · cases h
    · rename_i h2
      cases e : fFirst b with
      | some x => rw [e] at h; cases h
      | none => exact ⟨by simpa using h1, by omega, rfl⟩
theorem pre_of {s : LeadShop} {b : List UInt8} (few : GlaBase.num b 12 2 ≤ 200) (h : refuse s b = none) : b.length = sizeAt b ∧ Pre s (GlaPlan.parts b) := by
  obtain ⟨h1, h2, h3⟩ := refuse_none h
  obtain ⟨h4, f⟩ := fine_of h3
  refine ⟨h4, f.gn, f.dm.nl, ?_, fun v _ => deg_ok f.gn ?_ f.inj v, size_ok f.gn.lt f.bd f.srt f.dm.nl⟩
  · rw [LeadShop.ok] at h1
    simp only [GlaPlan.within, Bool.and_eq_true, decide_eq_true_eq] at h1
    omega
  · show ((List.range (GlaBase.num b 12 2)).map _).length ≤ 200
    rw [List.length_map, List.length_range]; exact few
end
/-! ### what is due -/
theorem ints_len (l : List Nat) : (Neutral.ints l).length = l.length := by rw [Neutral.ints, List.length_map]
theorem ofPlan_eq (b : List UInt8) (f : Plan → LeadSpec.Answer) : LeadSpec.ofPlan b f = if 131072 < b.length then .refused [-6] else match fFirst b with
    | some x => .refused [-5, (x.1 : Int), (x.2 : Int)]
    | none => f (GlaPlan.parts b) := by
  rw [LeadSpec.ofPlan, judge_eq]
  show (if 131072 < b.length then _ else _) = _
  split
  · rfl
  · cases fFirst b <;> rfl
theorem strips_told (s : LeadShop) (b : List UInt8) : Neutral.told (LeadSpec.answer (.strips b s)) = stripsV s b := by
  rw [LeadSpec.answer, stripsV, refuse]
  show Neutral.told (if s.ok = false then _ else _) = _
  by_cases h1 : s.ok = false
  · rw [if_pos h1, if_pos h1]; rfl
  · rw [if_neg h1, if_neg h1]
    show Neutral.told (LeadSpec.ofPlan b _) = _
    rw [ofPlan_eq]
    by_cases h2 : 131072 < b.length
    · rw [if_pos h2, if_pos h2]; rfl
    · rw [if_neg h2, if_neg h2]
      cases e : fFirst b with
      | some x => rfl
      | none =>
        obtain ⟨_, f⟩ := fine_of e
        simp only
        rw [rowsOf, (strips_eq (s := s) f.gn.lt f.bd f.srt).2, Neutral.told, outAll]
        congr 2
        congr 1
        funext r
        rw [Neutral.rowN, ints_len]; rfl
end Hl
end PHl36

section PHl37
set_option Elab.async false
set_option linter.all false
set_option maxRecDepth 100000
set_option maxHeartbeats 2000000
namespace Hl
open PySem PySem.Spec PyProof.Rows L2 Evl
open GlaPlan (Pt Plan)
open GlaLead (LeadShop)
/-! ### what is handed in -/
theorem nat_some {z : Int} {n : Nat} (h : Neutral.nat z = some n) : z = (n : Int) := by
  rw [Neutral.nat] at h
  split at h
  · cases h
  · obtain rfl := Option.some.inj h
    omega
theorem shop_some {a b c d n : Int} {s : LeadShop} (h : Neutral.shop a b c d n = some s) : a = (s.a : Int) ∧ b = (s.b : Int) ∧ c = (s.bar : Int) ∧ d = (s.joint : Int) ∧ n = (s.loss : Int) := by
  rw [Neutral.shop] at h
  simp only [bind, Option.bind_eq_some_iff] at h
  obtain ⟨x1, h1, x2, h2, x3, h3, x4, h4, x5, h5, h6⟩ := h
  obtain rfl := Option.some.inj h6
  exact ⟨nat_some h1, nat_some h2, nat_some h3, nat_some h4, nat_some h5⟩
theorem bytes_some {l : List Int} {p : List UInt8} (hr : ∀ z ∈ l, 0 ≤ z ∧ z < 256) (h : Neutral.bytes l = some p) : l = p.map fun (c : UInt8) => (c.toNat : Int) := by
  rw [Neutral.bytes] at h
  split at h
  · obtain rfl := Option.some.inj h
    rw [List.map_map]
    symm
    refine (List.map_congr_left fun z hz => ?_).trans (List.map_id _)
    have := hr z hz
    show ((UInt8.ofNat z.toNat).toNat : Int) = z
    rw [UInt8.toNat_ofNat']
    omega
  · cases h
theorem strips_due {a b bar joint loss : Int} {c : List Int} (h : PyYqglca.strips_asked a b bar joint loss c = true) :
    ∃ (s : LeadShop) (p : List UInt8), (a = (s.a : Int) ∧ b = (s.b : Int) ∧ bar = (s.bar : Int) ∧ joint = (s.joint : Int) ∧ loss = (s.loss : Int)) ∧ c = p.map (fun (x : UInt8) => (x.toNat : Int)) ∧ GlaBase.num p 12 2 ≤ 200 ∧ PyYqglca.strips a b bar joint loss c = stripsV s p := by
  rw [PyYqglca.strips_asked, Neutral.asked] at h
  simp only [List.all_cons, List.all_nil, Bool.and_true, Bool.and_eq_true, Neutral.asked1] at h
  obtain ⟨_, ⟨h1, h2⟩, h3⟩ := h
  have hr : ∀ z ∈ c, 0 ≤ z ∧ z < 256 := by
    intro z hz
    have := List.all_eq_true.1 h1 z hz
    rw [Neutral.natural, Bool.and_eq_true, decide_eq_true_eq, decide_eq_true_eq] at this
    exact this
  rw [Neutral.fits] at h3
  cases hc : Neutral.callOf [[1, a, b, bar, joint, loss], c] with
  | none => rw [hc] at h3; cases h3
  | some x =>
    rw [hc] at h3
    have hc0 := hc
    simp only [Neutral.callOf, bind, Option.bind_eq_some_iff] at hc
    obtain ⟨p, hp, s, hs, hx⟩ := hc
    obtain rfl := Option.some.inj hx
    refine ⟨s, p, shop_some hs, bytes_some hr hp, ?_, ?_⟩
    · have : Neutral.few p = true := by simpa [Neutral.moderate] using h3
      exact of_decide_eq_true this
    · rw [PyYqglca.strips, Neutral.f, hc0]
      exact strips_told s p
end Hl
end PHl37

section PHl40
set_option Elab.async false
set_option linter.all false
set_option maxRecDepth 100000
set_option maxHeartbeats 2000000
local macro_rules | `(tactic| walk_at "ev") => `(tactic| (first
  | exact Evl.ev_c
  | exact Evl.ev_var rfl
  | (apply Hl.ev_I0 <;> walk_at "ev")
  | (apply Hl.ev_I <;> walk_at "ev")
  | (apply Hl.ev_ixT <;> walk_at "ev")
  | (apply Hl.ev_ixL <;> walk_at "ev")
  | exact Evl.ea_nil
  | (apply Evl.ea_cons <;> walk_at "ev")
  | (apply Hl.ev_callV <;> first | assumption | walk_at "ev")
  | (apply Hl.ev_eq <;> walk_at "ev")
  | (apply Hl.ev_ne <;> walk_at "ev")
  | (apply Hl.ev_fld <;> first | assumption | walk_at "ev")
  | (apply Hl.ev_lenL <;> first | assumption | walk_at "ev")
  | (apply Hl.ev_chain <;> first | (refine fun (_ : _ = _) => ?_; walk_at "ev") | walk_at "ev")
  | (apply Evl.ev_orV <;> first | (refine fun (_ : _ = _) => ?_; walk_at "ev") | walk_at "ev")
  | (apply Evl.ev_andV <;> first | (refine fun (_ : _ = _) => ?_; walk_at "ev") | walk_at "ev")
  | (apply Evl.ev_notV <;> walk_at "ev")
  | (apply Evl.et_test <;> walk_at "ev")
  | (apply Evl.et_B <;> walk_at "ev")
  | (apply Evl.et_not <;> walk_at "ev")
  | (apply Evl.et_and <;> first | (refine fun (_ : _ = _) => ?_; walk_at "ev") | walk_at "ev")
  | (apply Evl.et_or <;> first | (refine fun (_ : _ = _) => ?_; walk_at "ev") | walk_at "ev")
  | assumption
  | (exact Evl.st_of (by assumption))
  | exact rfl
  | skip))

namespace Hl
open PySem PySem.Spec PyProof.Rows L2 Evl
open GlaPlan (Pt Plan)
open GlaLead (LeadShop)
/-! ### roots -/
def IsRoot (r n : Nat) : Prop := n ≤ r * r ∧ ∀ k, k < r → k * k < n
theorem IsRoot.uniq {r r' n : Nat} (h : IsRoot r n) (h' : IsRoot r' n) : r = r' := by
  rcases Nat.lt_trichotomy r r' with q | q | q
  · have := h'.2 r q
    have := h.1
    omega
  · exact q
  · have := h.2 r' q
    have := h'.1
    omega
theorem sq_le {a b : Nat} (h : a ≤ b) : a * a ≤ b * b := Nat.mul_le_mul h h
theorem rootFrom_spec : ∀ k r n, r * r ≤ n → n < (r + 2 ^ k) * (r + 2 ^ k) → GlaCut.rootFrom k r n * GlaCut.rootFrom k r n ≤ n ∧ n < (GlaCut.rootFrom k r n + 1) * (GlaCut.rootFrom k r n + 1)
  | 0, r, n, h1, h2 => ⟨h1, h2⟩
  | k + 1, r, n, h1, h2 => by
    rw [GlaCut.rootFrom]
    by_cases h : (r + 2 ^ k) * (r + 2 ^ k) ≤ n
    · rw [if_pos h]
      refine rootFrom_spec k _ n h ?_
      rw [Nat.add_assoc, show 2 ^ k + 2 ^ k = 2 ^ (k + 1) by rw [Nat.pow_succ]; omega]
      exact h2
    · rw [if_neg h]
      exact rootFrom_spec k r n h1 (Nat.lt_of_not_le h)
theorem root_is {q n : Nat} (h1 : q * q ≤ n) (h2 : n < (q + 1) * (q + 1)) : IsRoot (if q * q = n then q else q + 1) n := by
  by_cases h : q * q = n
  · rw [if_pos h]
    refine ⟨by omega, fun k hk => ?_⟩
    have := Nat.mul_lt_mul'' hk hk
    omega
  · rw [if_neg h]
    refine ⟨by omega, fun k hk => ?_⟩
    have := sq_le (a := k) (b := q) (by omega)
    omega
theorem rootOver_is {n : Nat} (h : n < 2 ^ 66) : IsRoot (LeadSpec.rootOver n) n := by
  obtain ⟨h1, h2⟩ := rootFrom_spec 33 0 n (Nat.zero_le _) (by rw [Nat.zero_add, ← Nat.pow_add]; exact h)
  exact root_is h1 h2
theorem rootUp_is {n : Nat} (h : n < 2 ^ 48) : IsRoot (GlaCut.rootUp n) n := by
  obtain ⟨h1, h2⟩ := rootFrom_spec 24 0 n (Nat.zero_le _) (by rw [Nat.zero_add, ← Nat.pow_add]; exact h)
  exact root_is h1 h2
theorem root_up {n : Nat} (h : n < 2 ^ 48) : LeadSpec.rootOver n = GlaCut.rootUp n := (rootOver_is (by omega)).uniq (rootUp_is h)
section
variable {P : Program} {w : World} {K : PySem.W.Frag} {mg : Str → Option Value} {base : Heap}
def Art : List V → Hp → V → Prop := fun vs _ v => ∃ n : Nat, vs = [.int (n : Int)] ∧ n < 2 ^ 65 ∧ v = .int (LeadSpec.rootOver n : Nat)
theorem Art.mono : Mono Art := fun _ _ _ _ _ h => h
theorem cmul_n {i : Nat} {j : Int} (h : i < 2 ^ 64) : CMul (i : Int) j := .inl (by omega)
theorem lt_of_sq {a b : Nat} (h : a * a < b * b) : a < b := Nat.lt_of_not_le fun z => by
  have := sq_le z; omega
abbrev s_root_above : Stmt := topS 33
abbrev N_root_above : List Str := ["number", "most", "least", "middle"]
theorem sc_root_above : FnScope N_root_above ["number"] (defScope s_root_above) := ⟨rfl, rfl, rfl, by decide +kernel, rfl, by decide +kernel, by decide +kernel⟩
theorem k_root_above (F : Dfn K mg "root_above" s_root_above ["number"]) : Cal P w K mg base 1 "root_above" (spV Art) := by
  refine mk_V F sc_root_above (fun vs H v h => by obtain ⟨_, rfl, _⟩ := h; rfl) (fun f cdv A' outer s0 H vs E v hr a => ?_)
  obtain ⟨n, rfl, hn, rfl⟩ := a
  have hroot := rootOver_is (n := n) (by omega)
  refine ⟨_, (pss_cons (ps_set (i := 1) sc_root_above.nd rfl (Or.inl rfl) pe_int)
      (pss_cons (ps_while PassesOwn.never (pt_cmpR op_lt (pe_op op_mul (pv 1) (pv 1)) (pv 0) (nomark _)) (pss_one (ps_set (i := 1) sc_root_above.nd rfl (Or.inl rfl) (pe_op op_mul (pv 1) pe_int))))
      (pss_cons (ps_set (i := 2) sc_root_above.nd rfl (Or.inl rfl) pe_int)
      (pss_cons (ps_while PassesOwn.never (pt_cmpR op_lt (pv 2) (pv 1) (nomark _)) (pss_cons (ps_set (i := 3) sc_root_above.nd rfl (Or.inl rfl) (pe_op op_fdivW (pe_op op_add (pv 2) (pv 1)) pe_int))
      (pss_one (ps_if (pt_cmpR op_lt (pe_op op_mul (pv 3) (pv 3)) (pv 0) (nomark _)) (pss_one (ps_set (i := 2) sc_root_above.nd rfl (Or.inl rfl) (pe_op op_add (pv 3) pe_int))) (pss_one (ps_set (i := 1) sc_root_above.nd rfl (Or.inl rfl) (pv 3)))))))
      (pss_one (ps_ret (pv 2))))))), fun Q kq => ?_⟩
  apply q_asg (v := .int (1 : Nat))
  · exact ev_is ev_c rfl
  intro H1 e1
  refine q_while (fun m σ' H' => ∃ (a : Nat), m = n - a ∧ 1 ≤ a ∧ a < 2 ^ 34 ∧ Ex H H' ∧ σ' = [some (.int (n : Int)), some (.int (a : Int)), none, none]) (n - 1) ?_ ?_
  · exact ⟨1, rfl, by omega, by omega, e1, rfl⟩
  · rintro m σ' H2 ⟨a, rfl, h1, h2, e2, rfl⟩
    refine ⟨decide (a * a < n), ?_, ?_, ?_⟩
    · refine et_is (a := decide ((a : Int) * (a : Int) < (n : Int))) ?_ (by rw [Bool.eq_iff_iff, decide_eq_true_eq, decide_eq_true_eq]; constructor <;> (intro h; exact_mod_cast h))
      walk_at "ev"
      exact cmul_n (by omega)
    · intro hb H3 e3
      have hb := of_decide_eq_true hb
      refine ⟨fun σ2 H2 => ∃ m', m' < n - a ∧ ∃ (a : Nat), m' = n - a ∧ 1 ≤ a ∧ a < 2 ^ 34 ∧ Ex H H2 ∧ σ2 = [some (.int (n : Int)), some (.int (a : Int)), none, none], fun σ2 H2 h => h, ?_⟩
      apply s_asg (v := .int ((a * 2 : Nat) : Int))
      · refine ev_is (v := .int ((a : Int) * 2)) ?_ (by rw [Int.natCast_mul]; rfl)
        walk_at "ev"
        exact cmul_n (by omega)
      · intro H4 e4
        have ha : a < 2 ^ 33 := lt_of_sq (by omega)
        have han : a < n := by
          have := Nat.mul_le_mul_right a h1
          omega
        exact ⟨n - a * 2, by omega, a * 2, rfl, by omega, by omega, (e2.trans e3).trans e4, rfl⟩
    · intro hb H3 e3
      have hb := of_decide_eq_false hb
      apply q_asg (v := .int (0 : Nat))
      · exact ev_is ev_c rfl
      intro H4 e4
      have e04 := (e2.trans e3).trans e4
      refine q_while (fun m σ' H' => ∃ (l r : Nat) (o : Option V), m = r - l ∧ l ≤ r ∧ r < 2 ^ 34 ∧ n ≤ r * r ∧ (∀ k, k < l → k * k < n) ∧ Ex H H' ∧ σ' = [some (.int (n : Int)), some (.int (r : Int)), some (.int (l : Int)), o]) a ?_ ?_
      · exact ⟨0, a, none, rfl, Nat.zero_le _, h2, by omega, fun k hk => absurd hk (Nat.not_lt_zero k), e04, rfl⟩
      · rintro m σ' H5 ⟨l, r, o, rfl, g1, g2, g3, g4, e5, rfl⟩
        refine ⟨decide (l < r), ?_, ?_, ?_⟩
        · refine et_is (a := decide ((l : Int) < (r : Int))) ?_ (by rw [Bool.eq_iff_iff, decide_eq_true_eq, decide_eq_true_eq]; omega)
          walk_at "ev"
        · intro hb2 H6 e6
          have hb2 := of_decide_eq_true hb2
          refine ⟨fun σ2 H2 => ∃ m', m' < r - l ∧ ∃ (l r : Nat) (o : Option V), m' = r - l ∧ l ≤ r ∧ r < 2 ^ 34 ∧ n ≤ r * r ∧ (∀ k, k < l → k * k < n) ∧ Ex H H2 ∧ σ2 = [some (.int (n : Int)), some (.int (r : Int)), some (.int (l : Int)), o], fun σ2 H2 h => h, ?_⟩
          apply q_asg (v := .int (((l + r) / 2 : Nat) : Int))
          · refine ev_is (v := .int (((l : Int) + (r : Int)) / 2)) ?_ (by rw [Int.natCast_ediv, Int.natCast_add]; rfl)
            walk_at "ev"
            exact ⟨by decide, by decide⟩
          · intro H7 e7
            have c1 : l ≤ (l + r) / 2 := by omega
            have c2 : (l + r) / 2 < r := by omega
            generalize (l + r) / 2 = c at *
            apply s_if (b := decide (c * c < n))
            · refine et_is (a := decide ((c : Int) * (c : Int) < (n : Int))) ?_ (by rw [Bool.eq_iff_iff, decide_eq_true_eq, decide_eq_true_eq]; constructor <;> (intro h; exact_mod_cast h))
              walk_at "ev"
              exact cmul_n (by omega)
            · intro hb3 H8 e8
              have hb3 := of_decide_eq_true hb3
              apply s_asg (v := .int ((c + 1 : Nat) : Int))
              · refine ev_is (v := .int ((c : Int) + 1)) ?_ (by rw [Int.natCast_add]; rfl)
                walk_at "ev"
              · intro H9 e9
                refine ⟨r - (c + 1), by omega, c + 1, r, _, rfl, by omega, g2, g3, fun k hk => ?_, (((e5.trans e6).trans e7).trans e8).trans e9, rfl⟩
                have := sq_le (a := k) (b := c) (by omega)
                omega
            · intro hb3 H8 e8
              have hb3 := of_decide_eq_false hb3
              apply s_asg (v := .int (c : Int))
              · exact ev_var rfl
              · intro H9 e9
                exact ⟨c - l, by omega, l, c, _, rfl, c1, by omega, by omega, g4, (((e5.trans e6).trans e7).trans e8).trans e9, rfl⟩
        · intro hb2 H6 e6
          have hb2 := of_decide_eq_false hb2
          have hlr : l = r := by omega
          subst hlr
          have : LeadSpec.rootOver n = l := hroot.uniq ⟨g3, g4⟩
          apply s_ret
          · exact ev_var rfl
          · intro H7 e7
            have hq := kq H7 ((e5.trans e6).trans e7)
            rw [this] at hq; exact hq
/-! ### lengths -/
def small (p : Pt) : Prop := p.x ≤ 1048575 ∧ p.y ≤ 1048575
def Ada (K : PySem.W.Frag) : List V → Hp → V → Prop := fun vs H v => ∃ (x y : V) (p q : Pt), vs = [x, y] ∧ isPt K p x H ∧ isPt K q y H ∧ small p ∧ small q ∧ v = .int (GlaCut.long p q : Nat)
theorem Ada.mono : Mono (Ada K) := fun vs H H' v e ⟨x, y, p, q, h, h1, h2, h3⟩ => ⟨x, y, p, q, h, h1.mono e, h2.mono e, h3⟩
theorem long_nat {p q : Pt} (hp : small p) (hq : small q) : ∃ n : Nat, (GlaPlan.dx p q * GlaPlan.dx p q + GlaPlan.dy p q * GlaPlan.dy p q) = (n : Int) ∧ n < 2 ^ 48 ∧ GlaCut.long p q = LeadSpec.rootOver n := by
  obtain ⟨a1, a2⟩ := hp
  obtain ⟨b1, b2⟩ := hq
  have h1 := mul_lt40 (x := GlaPlan.dx p q) (y := GlaPlan.dx p q) (by rw [GlaPlan.dx]; omega) (by rw [GlaPlan.dx]; omega)
  have h2 := mul_lt40 (x := GlaPlan.dy p q) (y := GlaPlan.dy p q) (by rw [GlaPlan.dy]; omega) (by rw [GlaPlan.dy]; omega)
  have g1 : 0 ≤ GlaPlan.dx p q * GlaPlan.dx p q := by
    rcases Int.le_total 0 (GlaPlan.dx p q) with z | z
    · exact Int.mul_nonneg z z
    · exact Int.mul_nonneg_of_nonpos_of_nonpos z z
  have g2 : 0 ≤ GlaPlan.dy p q * GlaPlan.dy p q := by
    rcases Int.le_total 0 (GlaPlan.dy p q) with z | z
    · exact Int.mul_nonneg z z
    · exact Int.mul_nonneg_of_nonpos_of_nonpos z z
  rw [GlaCut.long]
  generalize GlaPlan.dx p q * GlaPlan.dx p q = u at *
  generalize GlaPlan.dy p q * GlaPlan.dy p q = v at *
  refine ⟨(u + v).toNat, by omega, by omega, ?_⟩
  rw [root_up (by omega)]
abbrev s_distance_above : Stmt := topS 34
abbrev N_distance_above : List Str := ["p", "q", "across", "up"]
theorem sc_distance_above : FnScope N_distance_above ["p", "q"] (defScope s_distance_above) := ⟨rfl, rfl, rfl, by decide +kernel, rfl, by decide +kernel, by decide +kernel⟩
theorem k_distance_above (F : Dfn K mg "distance_above" s_distance_above ["p", "q"]) (c_root_above : Cal P w K mg base 1 "root_above" (spV Art)) : Cal P w K mg base 2 "distance_above" (spV (Ada K)) := by
  refine mk_V F sc_distance_above (fun vs H v h => by obtain ⟨_, _, _, _, rfl, _⟩ := h; rfl) (fun f cdv A' outer s0 H vs E v hr a => ?_)
  obtain ⟨x, y, p, q, rfl, ⟨hp, a1, rfl, h1⟩, ⟨hq, a2, rfl, h2⟩, sp, sq, rfl⟩ := a
  obtain ⟨n, hn, hn2, hl⟩ := long_nat sp sq
  rw [hl]
  refine ⟨_, (pss_cons (ps_set (i := 2) sc_distance_above.nd rfl (Or.inl rfl) (pe_op op_sub (pe_ix ix_tup (pv 1) pe_int (fun _ _ => rfl)) (pe_ix ix_tup (pv 0) pe_int (fun _ _ => rfl))))
      (pss_cons (ps_set (i := 3) sc_distance_above.nd rfl (Or.inl rfl) (pe_op op_sub (pe_ix ix_tup (pv 1) pe_int (fun _ _ => rfl)) (pe_ix ix_tup (pv 0) pe_int (fun _ _ => rfl))))
      (pss_one (ps_ret (pe_c c_root_above hr (by decide) (by rfl) (pa_cons (pe_op op_add (pe_op op_mul (pv 2) (pv 2)) (pe_op op_mul (pv 3) (pv 3))) pa_nil)))))), fun Q kq => ?_⟩
  apply q_asg (v := .int (GlaPlan.dx p q))
  · refine ev_is (v := .int ((q.x : Int) - (p.x : Int))) ?_ rfl
    walk_at "ev"
  intro H1 e1
  have h11 := ex_t e1 h1
  have h21 := ex_t e1 h2
  apply q_asg (v := .int (GlaPlan.dy p q))
  · refine ev_is (v := .int ((q.y : Int) - (p.y : Int))) ?_ rfl
    walk_at "ev"
  intro H2 e2
  have m1 : Mono Art := Art.mono
  have a1 : Art [.int (GlaPlan.dx p q * GlaPlan.dx p q + GlaPlan.dy p q * GlaPlan.dy p q)] H2 (.int (LeadSpec.rootOver n : Nat)) := ⟨n, by rw [hn], by omega, rfl⟩
  have bx : -(2 ^ 64) < GlaPlan.dx p q ∧ GlaPlan.dx p q < 2 ^ 64 := by rw [GlaPlan.dx]; omega
  have by_ : -(2 ^ 64) < GlaPlan.dy p q ∧ GlaPlan.dy p q < 2 ^ 64 := by rw [GlaPlan.dy]; omega
  apply s_ret
  · refine ev_callV m1 (vs := [.int (GlaPlan.dx p q * GlaPlan.dx p q + GlaPlan.dy p q * GlaPlan.dy p q)]) ?_ a1
    walk_at "ev"
    · exact .inl bx
    · exact .inl by_
  · exact fun H3 e3 => kq H3 ((e1.trans e2).trans e3)
end
end Hl
end PHl40

section PRl11
set_option Elab.async false
set_option linter.all false
set_option maxRecDepth 100000
set_option maxHeartbeats 2000000
namespace Hl
open PySem PySem.Spec PyProof.Rows L2 Evl
/-! ### a dict's pairs, while it is locked; a dict as it stands -/
theorem ex_upd {H H' : Hp} {g : Addr} {o : HO} (e : Ex H H') : Ex (upd H g o) (upd H' g o) := fun a u h => by
  by_cases z : a = g
  · rw [z, upd_same] at h ⊢; exact h
  · rw [upd_ne z] at h ⊢; exact e a u h
section
variable {K : PySem.W.Frag} {σ : L2.St} {H : Hp} {td ty tv : TE} {v : V} {tu tz : TS} {D : Ends}
theorem q_items {g : Addr} {kvs : List (Key × V)} {j1 j2 : Nat} (hg : H g = some (.dK kvs)) (h : ∀ H', Ev td σ H' (.ref g)) (I : Nat → L2.St → Prop) (h0 : I 0 σ)
    (hs : ∀ od i k v σ' H', kvs[i]? = some (k, v) → I i σ' → Ex H (upd H' g (.dK kvs)) → H' g = some (.frz od (.dK kvs)) →
      tu ⟨fun σ2 H2 => (I (i + 1) σ2 ∧ Ex H (upd H2 g (.dK kvs))) ∧ H2 g = some (.frz od (.dK kvs)), fun v H2 => H2 g = some (.frz od (.dK kvs)) ∧ D.rt v (upd H2 g (.dK kvs)), fun σ2 H2 => H2 g = some (.frz od (.dK kvs)) ∧ tz D σ2 (upd H2 g (.dK kvs)), fun σ2 H2 => (I (i + 1) σ2 ∧ Ex H (upd H2 g (.dK kvs))) ∧ H2 g = some (.frz od (.dK kvs))⟩ ((σ'.set j1 (some (kV k))).set j2 (some v)) H')
    (hd : ∀ σ' H', I kvs.length σ' → Ex H H' → tz D σ' H') : tSeq (tLock (tFor (iItems td) (gTup K 2 (gCons (gName j1) (gCons (gName j2) gNil))) tu)) tz D σ H := by
  refine ⟨g, _, hg, trivial, fun od => ?_⟩
  have e0 : Ex H (upd (upd H g (.frz od (.dK kvs))) g (.dK kvs)) := fun a u z => by
    by_cases y : a = g
    · rw [y] at z ⊢; rw [upd_same, ← hg]; exact z
    · rw [upd_ne y, upd_ne y]; exact z
  refine h _ _ (Ex.refl _) _ fun H1 e1 => ⟨g, od, kvs, rfl, e1 _ _ upd_same, for_it walk_items (fun i σ' H' => (I i σ' ∧ Ex H (upd H' g (.dK kvs))) ∧ H' g = some (.frz od (.dK kvs))) ⟨⟨h0, e0.trans (ex_upd e1)⟩, e1 _ _ upd_same⟩ (fun _ _ _ _ p => p.2) ?_ ?_⟩
  · rintro i x σ' H2 H3 hi ⟨⟨p1, p2⟩, p3⟩ ⟨T, u1, u2, rfl, hT, rfl, h1, h2⟩
    have hk : kvs[i]? = some kvs[i] := List.getElem?_eq_getElem hi
    replace h1 : kvs[i]?.map (fun kv => kV kv.fst) = some u1 := h1
    replace h2 : kvs[i]?.map Prod.snd = some u2 := h2
    rw [hk] at h1 h2
    obtain rfl := Option.some.inj h1
    obtain rfl := Option.some.inj h2
    have e2 : Ex H2 (upd H2 T (.tup [kV kvs[i].1, kvs[i].2])) := Ex.new hT
    refine g_pair upd_same ?_
    exact hs od i kvs[i].1 kvs[i].2 σ' _ hk p1 (p2.trans (ex_upd e2)) (e2 _ _ p3)
  · rintro σ' H2 ⟨⟨p1, p2⟩, p3⟩
    exact ⟨p3, hd σ' _ p1 p2⟩
theorem s_dputR {g : Addr} {kvs : List (Key × V)} {n : Nat} (hy : Ev ty σ H (.int (n : Int))) (hd : Ev td σ H (.ref g)) (hv : Ev tv σ H v) (h : H g = some (.dK kvs)) (hz : kvs.length < 1000000)
    (k : ∀ H1, Ex H H1 → D.nx σ (upd H1 g (.dK (putK kvs (kI n) v)))) : sDPut td ty tv D σ H :=
  hv H (Ex.refl H) _ fun H1 e1 => hd H1 e1 _ fun H2 e2 => hy H2 (e1.trans e2) _ fun H3 e3 => by
    have e := (e1.trans e2).trans e3
    exact ⟨g, _, rfl, DPut.k (k := kI n) (e _ _ h) (Nat.lt_of_lt_of_le hz (by decide)), k H3 e⟩
theorem ev_dgetR {g : Addr} {kvs : List (Key × V)} {n : Nat} (hy : Ev ty σ H (.int (n : Int))) (hd : Ev td σ H (.ref g)) (h : H g = some (.dK kvs)) (hv : valV kvs (kI n) = some v) : Ev (tDGet td ty) σ H v := fun H1 e1 Q q =>
  hd H1 e1 _ fun H2 e2 => hy H2 (e1.trans e2) _ fun H3 e3 => by
    have e := (e1.trans e2).trans e3
    refine ⟨g, v, rfl, ?_, q H3 (e2.trans e3)⟩
    rw [← hv]
    exact DGet.k (k := kI n) (e _ _ h)
end
end Hl
end PRl11

section PHl41
set_option Elab.async false
set_option linter.all false
set_option maxRecDepth 100000
set_option maxHeartbeats 4000000
local macro_rules | `(tactic| walk_at "ev") => `(tactic| (first
  | exact Evl.ev_c
  | exact Evl.ev_var rfl
  | (apply Hl.ev_I0 <;> walk_at "ev")
  | (apply Hl.ev_I <;> walk_at "ev")
  | (apply Hl.ev_ixT <;> walk_at "ev")
  | (apply Hl.ev_ixL <;> walk_at "ev")
  | exact Evl.ea_nil
  | (apply Evl.ea_cons <;> walk_at "ev")
  | (apply Hl.ev_callV <;> first | assumption | walk_at "ev")
  | (apply Hl.ev_eq <;> walk_at "ev")
  | (apply Hl.ev_ne <;> walk_at "ev")
  | (apply Hl.ev_fld <;> first | assumption | walk_at "ev")
  | (apply Hl.ev_lenL <;> first | assumption | walk_at "ev")
  | (apply Hl.ev_chain <;> first | (refine fun (_ : _ = _) => ?_; walk_at "ev") | walk_at "ev")
  | (apply Evl.ev_orV <;> first | (refine fun (_ : _ = _) => ?_; walk_at "ev") | walk_at "ev")
  | (apply Evl.ev_andV <;> first | (refine fun (_ : _ = _) => ?_; walk_at "ev") | walk_at "ev")
  | (apply Evl.ev_notV <;> walk_at "ev")
  | (apply Evl.et_test <;> walk_at "ev")
  | (apply Evl.et_B <;> walk_at "ev")
  | (apply Evl.et_not <;> walk_at "ev")
  | (apply Evl.et_and <;> first | (refine fun (_ : _ = _) => ?_; walk_at "ev") | walk_at "ev")
  | (apply Evl.et_or <;> first | (refine fun (_ : _ = _) => ?_; walk_at "ev") | walk_at "ev")
  | assumption
  | (exact Evl.st_of (by assumption))
  | exact rfl
  | skip))

namespace Hl
open PySem PySem.Spec PyProof.Rows L2 Evl
open GlaPlan (Pt Plan)
open GlaLead (LeadShop)
/-! ### each lead's length, kept under its number -/
def kvL (S : Plan) (ls : List Nat) : List (Key × V) := ls.map fun l => (kI l, V.int (GlaLead.leadLong S l : Nat))
theorem kvL_none (S : Plan) {l : Nat} : ∀ {ls : List Nat}, l ∉ ls → valV (kvL S ls) (kI l) = none
  | [], _ => rfl
  | x :: r, h => by
    have h1 : x ≠ l := fun z => h (by rw [z]; exact List.mem_cons_self)
    show valV ((kI x, _) :: kvL S r) (kI l) = none
    rw [valV_neg (fun z => h1 (kI_inj z))]
    exact kvL_none S fun z => h (List.mem_cons_of_mem _ z)
theorem kvL_get (S : Plan) {l : Nat} : ∀ {ls : List Nat}, l ∈ ls → valV (kvL S ls) (kI l) = some (.int (GlaLead.leadLong S l : Nat))
  | [], h => nomatch h
  | x :: r, h => by
    show valV ((kI x, _) :: kvL S r) (kI l) = _
    by_cases q : x = l
    · rw [valV_pos (by rw [q])]; rw [q]
    · rw [valV_neg (fun z => q (kI_inj z))]
      rcases List.mem_cons.1 h with z | z
      · exact absurd z.symm q
      · exact kvL_get S z
theorem kvL_snoc (S : Plan) (ls : List Nat) (l : Nat) : kvL S (ls ++ [l]) = kvL S ls ++ [(kI l, V.int (GlaLead.leadLong S l : Nat))] := by rw [kvL, List.map_append]; rfl
section
variable {P : Program} {w : World} {K : PySem.W.Frag} {mg : Str → Option Value} {base : Heap} {C C2 : Addr}
def isKL (S : Plan) (v : V) (H : Hp) : Prop := ∃ g, v = .ref g ∧ H g = some (.dK (kvL S (GlaLead.leads S)))
theorem isKL.mono {S : Plan} {v : V} {H H' : Hp} (e : Ex H H') (h : isKL S v H) : isKL S v H' := h.imp fun g z => ⟨z.1, e _ _ z.2⟩
def Alo (K : PySem.W.Frag) (C : Addr) : List V → Hp → (V → Hp → Prop) → Prop := fun vs H R => ∃ (x : V) (S : Plan), vs = [x] ∧ isDr K C S x H ∧ GN S ∧ S.lines.length ≤ 8192 ∧ Bd S ∧ R = isKL S
theorem Alo.mono : Mono (Alo K C) := fun vs H H' v e ⟨x, S, h, h1, h2⟩ => ⟨x, S, h, h1.mono e, h2⟩
abbrev s_lengths_of : Stmt := topS 35
abbrev N_lengths_of : List Str := ["drawing", "lengths", "lead", "line"]
theorem sc_lengths_of : FnScope N_lengths_of ["drawing"] (defScope s_lengths_of) := ⟨rfl, rfl, rfl, by decide +kernel, rfl, by decide +kernel, by decide +kernel⟩
theorem k_lengths_of (D : DrC K C) (F : Dfn K mg "lengths_of" s_lengths_of ["drawing"]) (c_leads_of : Cal P w K mg base 2 "leads_of" (spR (Alds K C))) (c_distance_above : Cal P w K mg base 2 "distance_above" (spV (Ada K))) : Cal P w K mg base 3 "lengths_of" (spR (Alo K C)) := by
  refine mk_R F sc_lengths_of (fun vs H v h => by obtain ⟨_, _, rfl, _⟩ := h; rfl) (fun f cdv A' outer s0 H vs E v0 hr a => ?_)
  obtain ⟨x, S, rfl, id, gn, nl, bd, rfl⟩ := a
  have id0 := id
  obtain ⟨a, dx, fs, vp, vl, vm, rfl, h2, f1, f2, f3, f4, f5, ⟨lp, us, rfl, hp, ip⟩, ⟨ll, ul, rfl, hl, il⟩, im⟩ := id
  have cl := D.cl
  have n3 := D.n3
  have n4 := D.n4
  have md : Mono (Ada K) := Ada.mono
  refine ⟨_, (pss_cons (ps_set (i := 1) sc_lengths_of.nd rfl (Or.inl rfl) pe_dnewK)
      (pss_cons (ps_for PassesOwn.never rfl (pi_list (pe_c c_leads_of hr (by decide) (by rfl) (pa_cons (pv 0) pa_nil))) (pg_name (i := 2) sc_lengths_of.nd rfl (Or.inl rfl))
        (pss_cons (ps_set (i := 3) sc_lengths_of.nd rfl (Or.inl rfl) (pe_ix ix_list (pe_fld (pv 0) rfl) (pv 2) (fun _ _ => rfl)))
      (pss_one (ps_dput (hu_of hr) (pv 1) (pv 2) (pe_c c_distance_above hr (by decide) (by rfl) (pa_cons (pe_ix ix_list (pe_fld (pv 0) rfl) (pe_ix ix_tup (pv 3) pe_int (fun _ _ => rfl)) (fun _ _ => rfl)) (pa_cons (pe_ix ix_list (pe_fld (pv 0) rfl) (pe_ix ix_tup (pv 3) pe_int (fun _ _ => rfl)) (fun _ _ => rfl)) pa_nil))) rfl))))
      (pss_one (ps_ret (pv 1))))), fun Q kq => ?_⟩
  apply q_asgF ef_dnewK
  intro g H1 hg e1 hg1
  have hbg : H g = none := hg
  have er := er_callR (σ := [some (.ref a), some (.ref g), none, none]) (H := H1) (tr := tCons (tVar 0) tNil) Alds.mono (vs := [.ref a]) (ea_cons (ev_var rfl) ea_nil) ⟨.ref a, S, rfl, id0.mono e1, gn.inp, gn.nl, rfl⟩
  refine er H1 (Ex.refl H1) _ ?_
  rintro v H2 e2 ⟨p, rfl, hpl⟩
  have inc := leads_inc S
  have hLm : ∀ i ∈ GlaLead.leads S, i < S.lines.length := fun i hi => leads_lt hi
  have hLl : (GlaLead.leads S).length ≤ 8192 := Nat.le_trans (leads_len S) nl
  have npg : p ≠ g := by
    rintro rfl
    rw [e2 _ _ hg1] at hpl; cases hpl
  refine ⟨p, rfl, ⟨_, sq_of hpl⟩, for_list (xs := (GlaLead.leads S).map fun (n : Nat) => V.int (n : Int)) (fun i σ' H' => ∃ (o2 o3 : Option V), Ex H H' ∧ H' p = some (.lst ((GlaLead.leads S).map fun (n : Nat) => V.int (n : Int))) ∧ H' g = some (.dK (kvL S ((GlaLead.leads S).take i))) ∧
    σ' = [some (.ref a), some (.ref g), o2, o3]) ?_ ?_ ?_ ?_⟩
  · exact ⟨none, none, e1.trans e2, hpl, e2 _ _ hg1, rfl⟩
  · rintro i σ' H' _ ⟨_, _, _, h, _⟩
    exact sq_of h
  · rintro i v σ' H5 hv ⟨o2, o3, q1, q2, q3, rfl⟩
    rw [List.getElem?_map] at hv
    obtain ⟨ld, hld, rfl⟩ := Option.map_eq_some_iff.1 hv
    have hli : i < (GlaLead.leads S).length := (List.getElem?_eq_some_iff.1 hld).1
    have hlm := hLm ld (List.mem_of_getElem? hld)
    obtain ⟨lv, hlv, il2⟩ := il.2 ld _ (lineOf_get hlm)
    have hlv := atI_nat hlv
    obtain ⟨al, rfl, hal⟩ := il2
    have hin := gn.inp _ (List.mem_of_getElem? (lineOf_get hlm))
    obtain ⟨u1, g1, iu1⟩ := ip.pt hin.1
    obtain ⟨u2, g2, iu2⟩ := ip.pt hin.2
    have h25 := q1 _ _ h2
    have hl5 := ex_l q1 hl
    apply q_asg (v := .ref al)
    · walk_at "ev"
    intro H6 e6
    have e06 := q1.trans e6
    have h26 := e06 _ _ h2
    have hp6 := ex_l e06 hp
    have hal6 := st_of (K := K) (e06 _ _ hal)
    have a1 : Ada K [u1, u2] H6 (.int (GlaLead.leadLong S ld : Nat)) := ⟨u1, u2, _, _, rfl, iu1.mono e06, iu2.mono e06, bd _, bd _, rfl⟩
    have hnew : ld ∉ (GlaLead.leads S).take i := by
      intro hz
      obtain ⟨j, hj⟩ := List.mem_iff_getElem?.1 hz
      rw [List.getElem?_take] at hj
      split at hj
      · rename_i hji
        obtain ⟨j1, j2⟩ := List.getElem?_eq_some_iff.1 hj
        obtain ⟨j3, j4⟩ := List.getElem?_eq_some_iff.1 hld
        have := List.pairwise_iff_getElem.1 inc j i j1 j3 hji
        omega
      · cases hj
    refine s_dputR (n := ld) (v := .int (GlaLead.leadLong S ld : Nat)) (ev_var rfl) (ev_var rfl) ?_ (e6 _ _ q3) (by simp [kvL]; omega) ?_
    · refine ev_callV md (vs := [u1, u2]) ?_ a1
      walk_at "ev"
    · intro H7 e7
      have ee : putK (kvL S ((GlaLead.leads S).take i)) (kI ld) (V.int (GlaLead.leadLong S ld : Nat)) = kvL S ((GlaLead.leads S).take (i + 1)) := by
        rw [putK_new _ (kvL_none S hnew), List.take_add_one, hld]
        exact (kvL_snoc S _ _).symm
      rw [ee]
      exact ⟨_, _, Ex.mut (e06.trans e7) hbg, by rw [upd_ne npg]; exact e7 _ _ (e6 _ _ q2), upd_same, rfl⟩
  · rintro σ' H5 ⟨o2, o3, q1, q2, q3, rfl⟩
    rw [List.length_map, List.take_length] at q3
    dsimp only
    apply s_ret
    · exact ev_var rfl
    · intro H6 e6
      exact kq _ H6 (q1.trans e6) ⟨g, rfl, e6 _ _ q3⟩
/-! ### a lead too long -/
def Atl : List V → Hp → V → Prop := fun vs H v => ∃ (x : V) (S : Plan) (s : LeadShop), vs = [x, .int (s.bar : Int), .int (s.joint : Int)] ∧ isKL S x H ∧ s.joint ≤ 65535 ∧ v = opV (GlaLead.tooLong s S)
theorem Atl.mono : Mono Atl := fun vs H H' v e ⟨x, S, s, h, h1, h2⟩ => ⟨x, S, s, h, h1.mono e, h2⟩
abbrev s_lead_too_long : Stmt := topS 43
abbrev N_lead_too_long : List Str := ["lengths", "bar", "joint", "lead", "length"]
theorem sc_lead_too_long : FnScope N_lead_too_long ["lengths", "bar", "joint"] (defScope s_lead_too_long) := ⟨rfl, rfl, rfl, by decide +kernel, rfl, by decide +kernel, by decide +kernel⟩
theorem k_lead_too_long (F : Dfn K mg "lead_too_long" s_lead_too_long ["lengths", "bar", "joint"]) : Cal P w K mg base 1 "lead_too_long" (spV Atl) := by
  refine mk_V F sc_lead_too_long (fun vs H v h => by obtain ⟨_, _, _, rfl, _⟩ := h; rfl) (fun f cdv A' outer s0 H vs E v hr a => ?_)
  obtain ⟨x, S, s, rfl, ⟨g, rfl, hg⟩, hj, rfl⟩ := a
  refine ⟨_, (pss_cons (ps_lock (ps_for PassesOwn.never rfl (pi_items (pv 0)) (pg_tup (by rfl) (pgs_cons (pg_name (i := 3) sc_lead_too_long.nd rfl (Or.inl rfl)) (pgs_cons (pg_name (i := 4) sc_lead_too_long.nd rfl (Or.inl rfl)) pgs_nil)))
        (pss_one (ps_if (pt_cmpR op_gt (pe_op op_add (pv 4) (pe_op op_mul pe_int (pv 2))) (pv 1) (nomark _)) (pss_one (ps_ret (pv 3))) pss_nil))))
      (pss_one (ps_ret pe_non))), fun Q kq => ?_⟩
  replace kq : ∀ H', Ex H H' → Q (opV (GlaLead.tooLong s S)) H' := kq
  rw [GlaLead.tooLong] at kq
  generalize GlaLead.leads S = ls at *
  refine q_items (g := g) (kvs := kvL S ls) hg (fun H' => ev_var rfl) (fun i σ' => ∃ o1 o2, σ' = [some (.ref g), some (.int (s.bar : Int)), some (.int (s.joint : Int)), o1, o2] ∧ ls.find? (fun i => decide (s.bar < GlaLead.leadLong S i + 2 * s.joint)) = (ls.drop i).find? fun i => decide (s.bar < GlaLead.leadLong S i + 2 * s.joint)) ?_ ?_ ?_
  · exact ⟨none, none, rfl, rfl⟩
  · rintro od i k v σ' H' hk ⟨o1, o2, rfl, hf⟩ e' hz
    rw [kvL, List.getElem?_map] at hk
    obtain ⟨ld, hld, hkv⟩ := Option.map_eq_some_iff.1 hk
    obtain ⟨rfl, rfl⟩ := Prod.mk.inj hkv
    rw [find_dropG hld] at hf
    apply s_when (b := decide (s.bar < GlaLead.leadLong S ld + 2 * s.joint))
    · refine et_is (a := decide ((s.bar : Int) < (GlaLead.leadLong S ld : Int) + 2 * (s.joint : Int))) ?_ (by rw [Bool.eq_iff_iff, decide_eq_true_eq, decide_eq_true_eq]; omega)
      refine et_is (a := decide ((GlaLead.leadLong S ld : Int) + 2 * (s.joint : Int) > (s.bar : Int))) ?_ rfl
      walk_at "ev"
      exact .inl (by decide)
    · intro hb H6 e6
      rw [if_pos hb] at hf
      apply s_ret (v := .int (ld : Int))
      · exact ev_var rfl
      · intro H7 e7
        have := kq (upd H7 g (.dK (kvL S ls))) (e'.trans (ex_upd (e6.trans e7)))
        rw [hf] at this
        exact ⟨(e6.trans e7) _ _ hz, this⟩
    · intro hb H6 e6
      rw [if_neg (by rw [hb]; exact Bool.false_ne_true)] at hf
      exact ⟨⟨⟨_, _, rfl, hf⟩, e'.trans (ex_upd e6)⟩, e6 _ _ hz⟩
  · rintro σ' H5 ⟨o1, o2, rfl, hf⟩ e5
    rw [kvL, List.length_map, List.drop_length] at hf
    apply s_ret
    · exact ev_c
    · intro H6 e6
      have := kq H6 (e5.trans e6)
      rw [hf] at this
      exact this
end
end Hl
end PHl41

section PHl42
set_option Elab.async false
set_option linter.all false
set_option maxRecDepth 100000
set_option maxHeartbeats 4000000
local macro_rules | `(tactic| walk_at "ev") => `(tactic| (first
  | exact Evl.ev_c
  | exact Evl.ev_var rfl
  | (apply Hl.ev_I0 <;> walk_at "ev")
  | (apply Hl.ev_I <;> walk_at "ev")
  | (apply Hl.ev_ixT <;> walk_at "ev")
  | (apply Hl.ev_ixL <;> walk_at "ev")
  | exact Evl.ea_nil
  | (apply Evl.ea_cons <;> walk_at "ev")
  | (apply Hl.ev_callV <;> first | assumption | walk_at "ev")
  | (apply Hl.ev_eq <;> walk_at "ev")
  | (apply Hl.ev_ne <;> walk_at "ev")
  | (apply Hl.ev_fld <;> first | assumption | walk_at "ev")
  | (apply Hl.ev_lenL <;> first | assumption | walk_at "ev")
  | (apply Hl.ev_chain <;> first | (refine fun (_ : _ = _) => ?_; walk_at "ev") | walk_at "ev")
  | (apply Evl.ev_orV <;> first | (refine fun (_ : _ = _) => ?_; walk_at "ev") | walk_at "ev")
  | (apply Evl.ev_andV <;> first | (refine fun (_ : _ = _) => ?_; walk_at "ev") | walk_at "ev")
  | (apply Evl.ev_notV <;> walk_at "ev")
  | (apply Evl.et_test <;> walk_at "ev")
  | (apply Evl.et_B <;> walk_at "ev")
  | (apply Evl.et_not <;> walk_at "ev")
  | (apply Evl.et_and <;> first | (refine fun (_ : _ = _) => ?_; walk_at "ev") | walk_at "ev")
  | (apply Evl.et_or <;> first | (refine fun (_ : _ = _) => ?_; walk_at "ev") | walk_at "ev")
  | assumption
  | (exact Evl.st_of (by assumption))
  | exact rfl
  | skip))

namespace Hl
open PySem PySem.Spec PyProof.Rows L2 Evl
open GlaPlan (Pt Plan)
open GlaLead (LeadShop)
/-! ### class Piece -/
structure PcC (K : PySem.W.Frag) (C : Addr) : Prop where
  cl : Cls K C
  n1 : NoAttr K C "length"
  n2 : NoAttr K C "points"
section
variable {K : PySem.W.Frag} {σ : L2.St} {H : Hp} {ta te : TE} {D : Ends} {tz : TS} {R : V → Hp → Prop}
theorem s_appR {l : Addr} {xs : List V} (hl : H l = some (.lst xs)) (ha : ∀ H', Ev ta σ H' (.ref l)) (h : EvR te σ H R) (hz : xs.length < 100000) (k : ∀ v H1, Ex H H1 → R v H1 → D.nx σ (upd H1 l (.lst (xs ++ [v])))) :
    tDrop (tBM K "list" rAppend ta (tCons te tNil)) D σ H := ha H H (Ex.refl H) _ fun H1 e1 =>
  ⟨Or.inl ⟨rfl, xs, sq_of (e1 l _ hl)⟩, h H1 e1 _ fun v H2 e2 r => ⟨l, xs, v, rfl, rfl, e2 l _ (e1 l _ hl), sz_lt hz, k v H2 (e1.trans e2) r⟩⟩
theorem q_appR {l : Addr} {xs : List V} (hl : H l = some (.lst xs)) (ha : ∀ H', Ev ta σ H' (.ref l)) (h : EvR te σ H R) (hz : xs.length < 100000) (k : ∀ v H1, Ex H H1 → R v H1 → tz D σ (upd H1 l (.lst (xs ++ [v])))) :
    tSeq (tDrop (tBM K "list" rAppend ta (tCons te tNil))) tz D σ H := s_appR (D := { D with nx := tz D }) hl ha h hz k
end
section
variable {P : Program} {w : World} {K : PySem.W.Frag} {mg : Str → Option Value} {base : Heap} {C2 C3 : Addr}
abbrev s_PcI : Stmt := inClass (topS 42) 0
abbrev N_PcI : List Str := ["self", "length", "points"]
theorem sc_PcI : FnScope N_PcI N_PcI (defScope s_PcI) := ⟨rfl, rfl, rfl, by decide +kernel, rfl, by decide +kernel, by decide +kernel⟩
abbrev pnames : List Str := ["length", "points"]
theorem k_PcI {f : Addr} {fd : FuncData} (D : PcC K C3) (F : Fun K "__init__" "Piece.__init__" s_PcI f fd) : FnOk P w K mg base CX0 1 f fd N_PcI (spI C3 pnames) := by
  refine F.ok sc_PcI (fun vs H Q E h => ?_) (fun cdv A outer s H vs Q E hr h => ?_)
  · obtain ⟨p, dx, us, rfl, hl, _⟩ := h
    simp [hl]
  · obtain ⟨p, dx, us, rfl, hl, hp, q⟩ := h
    match us, hl with
    | [u1, u2], _ =>
    refine ⟨_, pss_cons (ps_fld (pv 0) (pv 1) rfl) (pss_one (ps_fld (pv 0) (pv 2) rfl)), ?_⟩
    refine ⟨_, rfl, _, rfl, p, C3, dx, _, rfl, hp, D.cl, D.n1, (by show 0 < 1000; decide), ?_⟩
    refine ⟨_, rfl, _, rfl, p, C3, dx, _, rfl, upd_same, D.cl, D.n2, (by show 1 < 1000; decide), ?_⟩
    refine q _ _ upd_same (fun i n u hn hu => ?_) (fun b o hb hne => ?_)
    · match i, hn, hu with
      | 0, hn, hu => cases hn; cases hu; rfl
      | 1, hn, hu => cases hn; cases hu; rfl
    · rw [upd_ne hne, upd_ne hne]; exact hb
def isPc (C3 : Addr) (s : LeadShop) (S : Plan) (l : List St2) (v : V) (H : Hp) : Prop := ∃ (a dx : Addr) (fs : List (Str × V)) (lp : Addr), v = .ref a ∧ H a = some (.ins C3 dx fs) ∧ fs.lookup ("length" : Str) = some (.int (GlaLead.pieceLong s S l : Nat)) ∧ fs.lookup ("points" : Str) = some (.ref lp) ∧
  H lp = some (.lst (intsV (GlaLead.rowPts S l)))
theorem isPc.mono {s : LeadShop} {S : Plan} {l : List St2} {v : V} {H H' : Hp} (e : Ex H H') (h : isPc C3 s S l v H) : isPc C3 s S l v H' := by
  obtain ⟨a, dx, fs, lp, h1, h2, h3, h4, h5⟩ := h
  exact ⟨a, dx, fs, lp, h1, e _ _ h2, h3, h4, e _ _ h5⟩
theorem monoPc {s : LeadShop} {S : Plan} : MonoR (isPc C3 s S) := fun _ _ _ _ e h => h.mono e
/-! ### a way's points, cut -/
def Chn (S : Plan) (ws : List St2) : Prop := ∀ j x y, ws[j]? = some x → ws[j + 1]? = some y → y.1 = GlaLead.other S x.2 x.1
theorem sumOf_snoc : ∀ (l : List Nat) (x : Nat), GlaLead.sumOf (l ++ [x]) = GlaLead.sumOf l + x
  | [], x => by simp [GlaLead.sumOf]
  | y :: r, x => by
    have := sumOf_snoc r x
    simp only [GlaLead.sumOf, List.cons_append, List.foldr_cons] at *
    omega
theorem wayLong_snoc (S : Plan) (x : St2) (l : List St2) : GlaLead.wayLong S (l ++ [x]) = GlaLead.wayLong S l + GlaLead.leadLong S x.2 := by
  rw [GlaLead.wayLong, GlaLead.wayLong, List.map_append, List.map_cons, List.map_nil, sumOf_snoc]
theorem rowPts_get (S : Plan) {ws : List St2} (h : ws ≠ []) (j : Nat) : (GlaLead.rowPts S ws)[j]? = if j < ws.length then ws[j]?.map (·.1) else if j = ws.length then ws[j - 1]?.map (fun x => GlaLead.other S x.2 x.1) else none := by
  have hl : 0 < ws.length := List.length_pos_iff.2 h
  rw [GlaLead.rowPts, List.getLast?_eq_getElem?]
  have hz : ws[ws.length - 1]? = some (ws[ws.length - 1]'(by omega)) := List.getElem?_eq_getElem (by omega)
  rw [hz]
  simp only
  by_cases q : j < ws.length
  · rw [if_pos q, List.getElem?_append_left (by rw [List.length_map]; exact q), List.getElem?_map]
  · rw [if_neg q, List.getElem?_append_right (by rw [List.length_map]; omega), List.length_map]
    by_cases q2 : j = ws.length
    · rw [if_pos q2, q2, Nat.sub_self, hz]; rfl
    · rw [if_neg q2]
      rw [List.getElem?_eq_none (by show 1 ≤ _; omega)]
theorem rowPts_cut {S : Plan} {ws : List St2} (ch : Chn S ws) {b k : Nat} (hb : b < k) (hk : k ≤ ws.length) : ((GlaLead.rowPts S ws).drop b).take (k + 1 - b) = GlaLead.rowPts S ((ws.take k).drop b) := by
  have hl : ((ws.take k).drop b).length = k - b := by rw [List.length_drop, List.length_take]; omega
  have hne : (ws.take k).drop b ≠ [] := fun z => by rw [z] at hl; simp at hl; omega
  have hne0 : ws ≠ [] := fun z => by rw [z] at hk; simp at hk; omega
  apply List.ext_getElem?
  intro j
  rw [rowPts_get S hne, hl, List.getElem?_take, List.getElem?_drop, rowPts_get S hne0]
  have hg : ∀ i, i < k - b → ((ws.take k).drop b)[i]? = ws[b + i]? := fun i hi => by
    rw [List.getElem?_drop, List.getElem?_take, if_pos (by omega)]
  by_cases q : j < k - b
  · rw [if_pos q, if_pos (by omega), if_pos (by omega), hg j q]
  · rw [if_neg q]
    by_cases q2 : j = k - b
    · rw [if_pos q2, if_pos (by omega), hg (j - 1) (by omega), show b + (j - 1) = k - 1 by omega, show b + j = k by omega]
      by_cases q3 : k < ws.length
      · rw [if_pos q3]
        have h1 : ws[k - 1]? = some (ws[k - 1]'(by omega)) := List.getElem?_eq_getElem (by omega)
        have h2 : ws[k]? = some (ws[k]'(by omega)) := List.getElem?_eq_getElem (by omega)
        have := ch (k - 1) _ _ h1 (by rw [show k - 1 + 1 = k by omega]; exact h2)
        rw [h1, h2]
        exact congrArg some this
      · rw [if_neg q3, if_pos (by omega)]
    · rw [if_neg q2, if_neg (by omega)]
/-! ### parted -/
theorem er_piece {σ : L2.St} {H : Hp} {tl th : TO} {te : TE} {lo hi : Option Int} {pl lp : Addr} {us : List V} {L : Nat} {l : List St2} {s : LeadShop} {S : Plan} (hpl : H pl = some (.lst us)) (h5 : Ev (tVar 5) σ H (.int (L : Int))) (hp : Ev te σ H (.ref lp)) (h1 : EvO tl σ H lo) (h2 : EvO th σ H hi)
    (hs : H lp = some (.lst (intsV (GlaLead.rowPts S ws)))) (hc : cutV (intsV (GlaLead.rowPts S ws)) lo hi = intsV (GlaLead.rowPts S l)) (hL : L = GlaLead.pieceLong s S l) :
    EvR (tMake C3 (spI C3 pnames) [] E0 (tCons (tVar 5) (tCons (tSl (rSlL K) te tl th) tNil))) σ H (fun v H' => ∃ (a dx : Addr) (fs : List (Str × V)) (q : Addr), v = .ref a ∧ H' a = some (.ins C3 dx fs) ∧ fs.lookup ("length" : Str) = some (.int (GlaLead.pieceLong s S l : Nat)) ∧ fs.lookup ("points" : Str) = some (.ref q) ∧
      H' q = some (.lst (intsV (GlaLead.rowPts S l))) ∧ q ≠ pl) := by
  have er := er_make (C := C3) (σ := σ) (H := H) (tr := tCons (tVar 5) (tCons (tSl (rSlL K) te tl th) tNil)) (ns := pnames) (A := fun us H' => ∃ q, us = [.int (L : Int), .ref q] ∧ H' q = some (.lst (intsV (GlaLead.rowPts S l))) ∧ q ≠ pl) (fun us H H' e h => h.imp fun q z => ⟨z.1, e _ _ z.2.1, z.2.2⟩) (fun us H h => by obtain ⟨q, rfl, _⟩ := h; rfl) ?_
  · intro H1 e1 Q q
    refine er H1 e1 Q fun v H2 e2 r => q v H2 e2 ?_
    obtain ⟨a, dx, fs, us, h1, h2, h3, qq, rfl, h4, h5⟩ := r
    exact ⟨a, dx, fs, qq, h1, h2, by rw [← hL]; exact h3 0 _ _ rfl rfl, h3 1 _ _ rfl rfl, h4, h5⟩
  · intro H1 e1 Q q
    refine h5 H1 e1 _ fun H2 e2 => ?_
    have e02 := e1.trans e2
    refine el_sl (K := K) (hp.mono e02) (fun H4 e4 Q4 q4 => h1 H4 (e02.trans e4) Q4 q4) (fun H4 e4 Q4 q4 => h2 H4 (e02.trans e4) Q4 q4) (sq_of (e02 _ _ hs)) H2 (Ex.refl H2) _ fun p H3 hp3 e3 h3 => ?_
    refine q _ H3 (e2.trans e3) ⟨p, rfl, by rw [h3, hc], ?_⟩
    rintro rfl
    rw [e02 _ _ hpl] at hp3; cases hp3
end
end Hl
end PHl42

section PHl43
set_option Elab.async false
set_option linter.all false
set_option maxRecDepth 100000
set_option maxHeartbeats 4000000
local macro_rules | `(tactic| walk_at "ev") => `(tactic| (first
  | exact Evl.ev_c
  | exact Evl.ev_var rfl
  | (apply Hl.ev_I0 <;> walk_at "ev")
  | (apply Hl.ev_I <;> walk_at "ev")
  | (apply Hl.ev_ixT <;> walk_at "ev")
  | (apply Hl.ev_ixL <;> walk_at "ev")
  | exact Evl.ea_nil
  | (apply Evl.ea_cons <;> walk_at "ev")
  | (apply Hl.ev_callV <;> first | assumption | walk_at "ev")
  | (apply Hl.ev_eq <;> walk_at "ev")
  | (apply Hl.ev_ne <;> walk_at "ev")
  | (apply Hl.ev_fld <;> first | assumption | walk_at "ev")
  | (apply Hl.ev_lenL <;> first | assumption | walk_at "ev")
  | (apply Hl.ev_chain <;> first | (refine fun (_ : _ = _) => ?_; walk_at "ev") | walk_at "ev")
  | (apply Evl.ev_orV <;> first | (refine fun (_ : _ = _) => ?_; walk_at "ev") | walk_at "ev")
  | (apply Evl.ev_andV <;> first | (refine fun (_ : _ = _) => ?_; walk_at "ev") | walk_at "ev")
  | (apply Evl.ev_notV <;> walk_at "ev")
  | (apply Evl.et_test <;> walk_at "ev")
  | (apply Evl.et_B <;> walk_at "ev")
  | (apply Evl.et_not <;> walk_at "ev")
  | (apply Evl.et_and <;> first | (refine fun (_ : _ = _) => ?_; walk_at "ev") | walk_at "ev")
  | (apply Evl.et_or <;> first | (refine fun (_ : _ = _) => ?_; walk_at "ev") | walk_at "ev")
  | assumption
  | (exact Evl.st_of (by assumption))
  | exact rfl
  | skip))

namespace Hl
open PySem PySem.Spec PyProof.Rows L2 Evl
open GlaPlan (Pt Plan)
open GlaLead (LeadShop)
section
variable {P : Program} {w : World} {K : PySem.W.Frag} {mg : Str → Option Value} {base : Heap} {C2 C3 : Addr}
theorem intsV_cut (l : List Nat) (b k : Nat) : cutV (intsV l) (some (b : Int)) (some ((k : Int))) = intsV ((l.drop b).take (k - b)) := by
  rw [cut_nat, intsV, intsV, ← List.map_drop, ← List.map_take]
theorem intsV_from (l : List Nat) (b : Nat) : cutV (intsV l) (some (b : Int)) none = intsV (l.drop b) := by
  rw [cut_from, intsV, intsV, ← List.map_drop]
theorem parted_nil (s : LeadShop) (S : Plan) {had : List St2} (h : had ≠ []) : GlaLead.parted s S had [] = [had] := by rw [GlaLead.parted, if_neg h]
theorem parted_stay (s : LeadShop) (S : Plan) {had r : List St2} {x : St2} (h : had = [] ∨ GlaLead.wayLong S (had ++ [x]) + 2 * s.joint ≤ s.bar) : GlaLead.parted s S had (x :: r) = GlaLead.parted s S (had ++ [x]) r := by rw [GlaLead.parted, if_pos h]
theorem parted_new (s : LeadShop) (S : Plan) {had r : List St2} {x : St2} (h : ¬ (had = [] ∨ GlaLead.wayLong S (had ++ [x]) + 2 * s.joint ≤ s.bar)) : GlaLead.parted s S had (x :: r) = had :: GlaLead.parted s S [x] r := by rw [GlaLead.parted, if_neg h]
theorem tooLong_none {s : LeadShop} {S : Plan} (h : GlaLead.tooLong s S = none) {l : Nat} (hl : l ∈ GlaLead.leads S) : GlaLead.leadLong S l + 2 * s.joint ≤ s.bar := by
  rw [GlaLead.tooLong, List.find?_eq_none] at h
  have := h l hl
  simpa using this
theorem wayLong_nil (S : Plan) : GlaLead.wayLong S [] = 0 := rfl
theorem wayLong_one (S : Plan) (x : St2) : GlaLead.wayLong S [x] = GlaLead.leadLong S x.2 := by
  have := wayLong_snoc S x []
  rw [List.nil_append, wayLong_nil, Nat.zero_add] at this
  exact this
def Aptd (K : PySem.W.Frag) (C2 C3 : Addr) : List V → Hp → (V → Hp → Prop) → Prop := fun vs H R => ∃ (x y : V) (S : Plan) (s : LeadShop) (ws : List St2), vs = [x, y, .int (s.bar : Int), .int (s.joint : Int)] ∧ isStr C2 S ws x H ∧ isKL S y H ∧ s.joint ≤ 65535 ∧ Chn S ws ∧ ws ≠ [] ∧ (∀ z ∈ ws, z.2 ∈ GlaLead.leads S) ∧
  GlaLead.tooLong s S = none ∧ ws.length ≤ 8192 ∧ R = isLX (isPc C3 s S) (GlaLead.parted s S [] ws)
theorem Aptd.mono : Mono (Aptd K C2 C3) := fun vs H H' v e ⟨x, y, S, s, ws, h, h1, h2, h3⟩ => ⟨x, y, S, s, ws, h, h1.mono e, h2.mono e, h3⟩
abbrev s_parted : Stmt := topS 44
abbrev N_parted : List Str := ["strip", "lengths", "bar", "joint", "pieces_so_far", "length", "begin", "k", "lead"]
theorem sc_parted : FnScope N_parted ["strip", "lengths", "bar", "joint"] (defScope s_parted) := ⟨rfl, rfl, rfl, by decide +kernel, rfl, by decide +kernel, by decide +kernel⟩
theorem k_parted (T : Txt K mg) (D2 : StC K C2) (F : Dfn K mg "parted" s_parted ["strip", "lengths", "bar", "joint"]) (c_Piece : Mak P w K mg base 1 "Piece" C3 pnames) : Cal P w K mg base 3 "parted" (spR (Aptd K C2 C3)) := by
  refine mk_R F sc_parted (fun vs H v h => by obtain ⟨_, _, _, _, _, rfl, _⟩ := h; rfl) (fun f cdv A' outer s0 H vs E v0 hr a => ?_)
  obtain ⟨x, y, S, s, ws, rfl, is, ⟨g, rfl, hg⟩, hj, hch, hne, hld, hfit, hlen, rfl⟩ := a
  obtain ⟨a, dx, fs, la, lp, rfl, ha, k1, k2, hla, hlp⟩ := is
  have cl := D2.cl
  have m1 := D2.n1
  have m2 := D2.n2
  refine ⟨_, (pss_cons (ps_set (i := 4) sc_parted.nd rfl (Or.inl rfl) (pe_lst pa_nil))
      (pss_cons (ps_set (i := 5) sc_parted.nd rfl (Or.inl rfl) (pe_op op_mul pe_int (pv 3)))
      (pss_cons (ps_set (i := 6) sc_parted.nd rfl (Or.inl rfl) pe_int)
      (pss_cons (ps_for PassesOwn.never rfl (pi_enum (by rfl) T.enumerate (pa_cons (pe_fld (pv 0) rfl) pa_nil)) (pg_tup (by rfl) (pgs_cons (pg_name (i := 7) sc_parted.nd rfl (Or.inl rfl)) (pgs_cons (pg_name (i := 8) sc_parted.nd rfl (Or.inl rfl)) pgs_nil)))
        (pss_cons (ps_if (pt_cmpR op_gt (pe_op op_add (pv 5) (pe_dget (hu_of hr) (pv 1) (pv 8) (fun _ _ => rfl))) (pv 2) (nomark _)) (pss_cons (ps_expr (pe_bm PySem.F.plainAttrs_list PySem.F.slot_list_append PySem.F.type_list_append mt_append (pv 4) (pa_cons (pe_mk c_Piece hr (by decide) (by rfl) (pa_cons (pv 5) (pa_cons (pe_slice sl_list (pe_fld (pv 0) rfl) (po_some (pv 6)) (po_some (pe_op op_add (pv 7) pe_int))) pa_nil))) pa_nil)))
      (pss_cons (ps_set (i := 5) sc_parted.nd rfl (Or.inl rfl) (pe_op op_mul pe_int (pv 3)))
      (pss_one (ps_set (i := 6) sc_parted.nd rfl (Or.inl rfl) (pv 7))))) pss_nil)
      (pss_one (ps_aug (i := 5) sc_parted.nd rfl (Or.inl rfl) (pe_dget (hu_of hr) (pv 1) (pv 8) (fun _ _ => rfl)) ip_add))))
      (pss_cons (ps_expr (pe_bm PySem.F.plainAttrs_list PySem.F.slot_list_append PySem.F.type_list_append mt_append (pv 4) (pa_cons (pe_mk c_Piece hr (by decide) (by rfl) (pa_cons (pv 5) (pa_cons (pe_slice sl_list (pe_fld (pv 0) rfl) (po_some (pv 6)) po_none) pa_nil))) pa_nil)))
      (pss_one (ps_ret (pv 4)))))))), fun Q kq => ?_⟩
  apply q_asgL (xs := [])
  · exact el_lst ea_nil (by show 0 ≤ 100000; decide)
  intro pl H1 hpl e1 hpl1
  have ev2j : ∀ (σ' : L2.St) (H' : Hp), σ'[3]? = some (some (.int (s.joint : Int))) → Ev (tOp (rI CMul fun i j => .int (i * j)) (tC (.int 2)) (tVar 3)) σ' H' (.int ((2 * s.joint : Nat) : Int)) := fun σ' H' h => by
    refine ev_is (v := .int (2 * (s.joint : Int))) ?_ (by rw [Int.natCast_mul]; rfl)
    exact ev_I ev_c (ev_var h) (.inl (by decide))
  apply q_asg (v := .int ((2 * s.joint : Nat) : Int))
  · exact ev2j _ _ rfl
  intro H2 e2
  apply q_asg (v := .int ((0 : Nat) : Int))
  · exact ev_is ev_c rfl
  intro H3 e3
  have e13 := e2.trans e3
  have e03 := e1.trans e13
  refine q_forEn (a := la) (xs := intsV (ws.map (·.2))) (ev_fld (ev_var rfl) (e03 _ _ ha) cl m1 k1) (sq_of (e03 _ _ hla)) (fun k σ' H' => ∃ (Hf : Hp) (us : List V) (Dn : List (List St2)) (b : Nat) (o7 o8 : Option V), Hf pl = none ∧ Ex H Hf ∧ Ex Hf H' ∧ H' pl = some (.lst us) ∧ us.length ≤ k ∧ Its (isPc C3 s S) Dn us Hf ∧
    (k ≠ 0 → b < k) ∧ b ≤ k ∧ GlaLead.parted s S [] ws = Dn ++ GlaLead.parted s S ((ws.take k).drop b) (ws.drop k) ∧
    σ' = [some (.ref a), some (.ref g), some (.int (s.bar : Int)), some (.int (s.joint : Int)), some (.ref pl), some (.int ((GlaLead.wayLong S ((ws.take k).drop b) + 2 * s.joint : Nat) : Int)), some (.int (b : Int)), o7, o8]) ?_ ?_ ?_ ?_
  · intro H4 e4
    refine ⟨H, [], [], 0, none, none, hpl, Ex.refl H, e03.trans e4, (e13.trans e4) _ _ hpl1, Nat.le_refl _, Its.nil, fun z => absurd rfl z, Nat.le_refl _, rfl, ?_⟩
    show _ = _
    rw [List.take_zero, List.drop_nil, wayLong_nil, Nat.zero_add]; rfl
  · rintro k σ' H' ⟨Hf, us, Dn, b, o7, o8, q1, q2, q3, _⟩
    exact sq_of ((q2.trans q3) _ _ hla)
  · rintro k v σ' H4 H5 hv ⟨Hf, us, Dn, b, o7, o8, q1, q2, q3, q4, q5, q6, q7, q7b, q8, rfl⟩ e5
    rw [intsV, List.getElem?_map, List.getElem?_map] at hv
    obtain ⟨zi, hzi, rfl⟩ := Option.map_eq_some_iff.1 hv
    obtain ⟨z, hz, rfl⟩ := Option.map_eq_some_iff.1 hzi
    have hkw : k < ws.length := (List.getElem?_eq_some_iff.1 hz).1
    have hzl := hld z (List.mem_of_getElem? hz)
    have hval := kvL_get S hzl
    have e05 := (q2.trans q3).trans e5
    have hd : ws.drop k = z :: ws.drop (k + 1) := by
      obtain ⟨h1, h2⟩ := List.getElem?_eq_some_iff.1 hz
      rw [List.drop_eq_getElem_cons h1, h2]
    have ht : ws.take (k + 1) = ws.take k ++ [z] := by rw [List.take_add_one, hz]; rfl
    have htl : (ws.take k).length = k := by rw [List.length_take]; omega
    have ht2 : (ws.take (k + 1)).drop b = (ws.take k).drop b ++ [z] := by rw [ht, List.drop_append_of_le_length (by omega)]
    have ht3 : (ws.take (k + 1)).drop k = [z] := by
      rw [ht, List.drop_append_of_le_length (by omega), List.drop_of_length_le (by omega)]; rfl
    have hcut := rowPts_cut (S := S) hch (b := b) (k := k)
    generalize hhad : (ws.take k).drop b = had at *
    have hhl : had.length = k - b := by rw [← hhad, List.length_drop, htl]
    have hfz := tooLong_none hfit hzl
    have hws := wayLong_snoc S z had
    have evz : ∀ (σ' : L2.St) (H' : Hp), Ex H5 H' → σ'[1]? = some (some (.ref g)) → σ'[8]? = some (some (.int (z.2 : Int))) → Ev (tDGet (tVar 1) (tVar 8)) σ' H' (.int (GlaLead.leadLong S z.2 : Nat)) := fun σ' H' e h1 h8 =>
      ev_dgetR (n := z.2) (ev_var h8) (ev_var h1) ((e05.trans e) _ _ hg) hval
    apply q_when (b := decide (s.bar < GlaLead.wayLong S had + 2 * s.joint + GlaLead.leadLong S z.2))
    · refine et_is (a := decide ((((GlaLead.wayLong S had + 2 * s.joint : Nat) : Int) + (GlaLead.leadLong S z.2 : Int)) > (s.bar : Int))) ?_ (by rw [Bool.eq_iff_iff, decide_eq_true_eq, decide_eq_true_eq]; omega)
      exact et_test (ev_I0 (g := fun i j => .bl (decide (i > j))) (ev_I0 (g := fun i j => .int (i + j)) (ev_var rfl) (evz _ _ (Ex.refl _) rfl rfl)) (ev_var rfl))
    · intro hb H6 e6
      have hb := of_decide_eq_true hb
      have hk0 : k ≠ 0 := by
        rintro rfl
        have : had = [] := List.length_eq_zero_iff.1 (by omega)
        rw [this, wayLong_nil] at hb
        omega
      have hbk := q7 hk0
      have hhn : had ≠ [] := fun z => by rw [z] at hhl; simp at hhl; omega
      have hnew := parted_new s S (had := had) (r := ws.drop (k + 1)) (x := z) (fun y => y.elim hhn fun y => by omega)
      have hcut := hcut hbk (Nat.le_of_lt hkw)
      have e06 := e05.trans e6
      have q46 := (e5.trans e6) _ _ q4
      refine q_appR (l := pl) (xs := us) q46 (fun H' => ev_var rfl) (er_piece (C3 := C3) (lp := lp) (lo := some (b : Int)) (hi := some ((k + 1 : Nat) : Int)) (L := GlaLead.wayLong S had + 2 * s.joint) (l := had) (s := s) (S := S) (ws := ws) q46 (ev_var rfl) (ev_fld (ev_var rfl) (e06 _ _ ha) cl m2 k2) (eo_some (ev_var rfl)) (eo_some ?_) (e06 _ _ hlp) ?_ rfl) (by omega) ?_
      · exact ev_is (v := .int ((k : Int) + 1)) (ev_I0 (g := fun i j => .int (i + j)) (ev_var rfl) ev_c) rfl
      · rw [intsV_cut, hcut]
      · rintro v7 H7 e7 ⟨pa, pdx, pfs, pq, rfl, hpa, hk1, hk2, hpq, npq⟩
        have q47 := e7 _ _ q46
        have npa : pa ≠ pl := fun y => by rw [y, q47] at hpa; cases hpa
        have x7 : Ex Hf (upd H7 pl (.lst (us ++ [.ref pa]))) := Ex.mut ((q3.trans e5).trans (e6.trans e7)) q1
        have hU : (upd H7 pl (.lst (us ++ [.ref pa]))) pl = some (.lst (us ++ [.ref pa])) := upd_same
        have x7b : Ex (del H7 pl) (upd H7 pl (.lst (us ++ [.ref pa]))) := Ex.mut del_ex del_at
        generalize upd H7 pl (.lst (us ++ [.ref pa])) = H8 at *
        apply q_asg (v := .int ((2 * s.joint : Nat) : Int))
        · exact ev2j _ _ rfl
        intro H9 e9
        apply s_asg (v := .int (k : Int))
        · exact ev_var rfl
        intro H10 e10
        have e8 := e9.trans e10
        refine s_aug (i := 5) (a := ((2 * s.joint : Nat) : Int)) (b := (GlaLead.leadLong S z.2 : Nat)) rfl ?_ ?_
        · exact ev_dgetR (n := z.2) (ev_var rfl) (ev_var rfl) (((q2.trans x7).trans e8) _ _ hg) hval
        · intro H11 e11
          have eD : Ex Hf (del H7 pl) := ex_del ((q3.trans e5).trans (e6.trans e7)) q1
          refine ⟨del H7 pl, us ++ [.ref pa], Dn ++ [had], k, some (.int (k : Int)), some (.int (z.2 : Int)), del_at, q2.trans eD, x7b.trans (e8.trans e11), (e8.trans e11) _ _ hU, by simp; omega, ?_, fun _ => by omega, by omega, ?_, ?_⟩
          · refine Its.snoc (q6.mono monoPc eD) ⟨pa, pdx, pfs, pq, rfl, ?_, hk1, hk2, ?_⟩
            · rw [del_ne npa]; exact hpa
            · rw [del_ne npq]; exact hpq
          · rw [q8, hd, hnew, ht3, List.append_assoc]; rfl
          · rw [ht3, wayLong_one]
            show [_, _, _, _, _, _, _, _, _] = _
            have : ((2 * s.joint : Nat) : Int) + (GlaLead.leadLong S z.2 : Int) = ((GlaLead.leadLong S z.2 + 2 * s.joint : Nat) : Int) := by omega
            rw [← this]
    · intro hb H6 e6
      have hb := of_decide_eq_false hb
      have hstay := parted_stay s S (had := had) (r := ws.drop (k + 1)) (x := z) (.inr (by omega))
      refine s_aug (i := 5) (a := ((GlaLead.wayLong S had + 2 * s.joint : Nat) : Int)) (b := (GlaLead.leadLong S z.2 : Nat)) rfl (evz _ _ e6 rfl rfl) ?_
      intro H7 e7
      refine ⟨Hf, us, Dn, b, some (.int (k : Int)), some (.int (z.2 : Int)), q1, q2, (q3.trans e5).trans (e6.trans e7), (e5.trans (e6.trans e7)) _ _ q4, by omega, q6, fun _ => by omega, by omega, ?_, ?_⟩
      · rw [q8, hd, hstay, ht2]
      · rw [ht2, hws]
        show [_, _, _, _, _, _, _, _, _] = _
        have : ((GlaLead.wayLong S had + 2 * s.joint : Nat) : Int) + (GlaLead.leadLong S z.2 : Int) = ((GlaLead.wayLong S had + GlaLead.leadLong S z.2 + 2 * s.joint : Nat) : Int) := by omega
        rw [← this]
  · rintro σ' H4 ⟨Hf, us, Dn, b, o7, o8, q1, q2, q3, q4, q5, q6, q7, q7b, q8, rfl⟩
    have hl : (intsV (ws.map (·.2))).length = ws.length := by simp [intsV]
    rw [hl] at q5 q7 q7b q8 ⊢
    have hwl : 0 < ws.length := List.length_pos_iff.2 hne
    have hcut := rowPts_cut (S := S) hch (q7 (by omega)) (Nat.le_refl _)
    have hbl := q7 (by omega)
    rw [List.take_length] at *
    rw [List.drop_length, parted_nil s S (fun z => by have := congrArg List.length z; rw [List.length_drop] at this; simp at this; omega)] at q8
    generalize hhad : ws.drop b = had at *
    dsimp only
    refine q_appR (l := pl) (xs := us) q4 (fun H' => ev_var rfl) (er_piece (C3 := C3) (lp := lp) (lo := some (b : Int)) (hi := none) (L := GlaLead.wayLong S had + 2 * s.joint) (l := had) (s := s) (S := S) (ws := ws) q4 (ev_var rfl) (ev_fld (ev_var rfl) ((q2.trans q3) _ _ ha) cl m2 k2) (eo_some (ev_var rfl)) eo_none ((q2.trans q3) _ _ hlp) ?_ rfl) (by omega) ?_
    · rw [intsV_from, ← hcut]
      congr 1
      refine (List.take_of_length_le ?_).symm
      rw [List.length_drop, rowPts_len S hne]
      exact Nat.le_refl _
    · rintro v7 H7 e7 ⟨pa, pdx, pfs, pq, rfl, hpa, hk1, hk2, hpq, npq⟩
      have q47 := e7 _ _ q4
      have npa : pa ≠ pl := fun y => by rw [y, q47] at hpa; cases hpa
      have eD : Ex Hf (del H7 pl) := ex_del (q3.trans e7) q1
      have x7b : Ex (del H7 pl) (upd H7 pl (.lst (us ++ [.ref pa]))) := Ex.mut del_ex del_at
      have hU : (upd H7 pl (.lst (us ++ [.ref pa]))) pl = some (.lst (us ++ [.ref pa])) := upd_same
      generalize upd H7 pl (.lst (us ++ [.ref pa])) = H8 at *
      apply s_ret
      · exact ev_var rfl
      · intro H9 e9
        refine kq _ H9 ((q2.trans eD).trans (x7b.trans e9)) ⟨pl, us ++ [.ref pa], rfl, e9 _ _ hU, ?_⟩
        rw [q8]
        refine (Its.snoc (q6.mono monoPc eD) ⟨pa, pdx, pfs, pq, rfl, ?_, hk1, hk2, ?_⟩).mono monoPc (x7b.trans e9)
        · rw [del_ne npa]; exact hpa
        · rw [del_ne npq]; exact hpq
end
end Hl
end PHl43

section PHl44
set_option Elab.async false
set_option linter.all false
set_option maxRecDepth 100000
set_option maxHeartbeats 4000000
local macro_rules | `(tactic| walk_at "ev") => `(tactic| (first
  | exact Evl.ev_c
  | exact Evl.ev_var rfl
  | (apply Hl.ev_I0 <;> walk_at "ev")
  | (apply Hl.ev_I <;> walk_at "ev")
  | (apply Hl.ev_ixT <;> walk_at "ev")
  | (apply Hl.ev_ixL <;> walk_at "ev")
  | exact Evl.ea_nil
  | (apply Evl.ea_cons <;> walk_at "ev")
  | (apply Hl.ev_callV <;> first | assumption | walk_at "ev")
  | (apply Hl.ev_eq <;> walk_at "ev")
  | (apply Hl.ev_ne <;> walk_at "ev")
  | (apply Hl.ev_fld <;> first | assumption | walk_at "ev")
  | (apply Hl.ev_lenL <;> first | assumption | walk_at "ev")
  | (apply Hl.ev_chain <;> first | (refine fun (_ : _ = _) => ?_; walk_at "ev") | walk_at "ev")
  | (apply Evl.ev_orV <;> first | (refine fun (_ : _ = _) => ?_; walk_at "ev") | walk_at "ev")
  | (apply Evl.ev_andV <;> first | (refine fun (_ : _ = _) => ?_; walk_at "ev") | walk_at "ev")
  | (apply Evl.ev_notV <;> walk_at "ev")
  | (apply Evl.et_test <;> walk_at "ev")
  | (apply Evl.et_B <;> walk_at "ev")
  | (apply Evl.et_not <;> walk_at "ev")
  | (apply Evl.et_and <;> first | (refine fun (_ : _ = _) => ?_; walk_at "ev") | walk_at "ev")
  | (apply Evl.et_or <;> first | (refine fun (_ : _ = _) => ?_; walk_at "ev") | walk_at "ev")
  | assumption
  | (exact Evl.st_of (by assumption))
  | exact rfl
  | skip))

namespace Hl
open PySem PySem.Spec PyProof.Rows L2 Evl
open GlaPlan (Pt Plan)
open GlaLead (LeadShop)
section
variable {s : LeadShop} {S : Plan}
/-! ### pieces: how many, and that each has a lead -/
theorem parted_ne : ∀ (r had : List St2), ∀ l ∈ GlaLead.parted s S had r, l ≠ []
  | [], had, l, h => by
    rw [GlaLead.parted] at h
    split at h
    · cases h
    · rename_i hn
      rw [List.mem_singleton.1 h]; exact hn
  | x :: r, had, l, h => by
    rw [GlaLead.parted] at h
    split at h
    · exact parted_ne r _ l h
    · rename_i hn
      rcases List.mem_cons.1 h with q | q
      · rw [q]; exact fun z => hn (.inl z)
      · exact parted_ne r _ l q
theorem parted_sum : ∀ (r had : List St2), (GlaLead.parted s S had r).flatMap (fun l => l) = had ++ r
  | [], had => by
    rw [GlaLead.parted]
    split
    · rename_i h; rw [h]; rfl
    · simp
  | x :: r, had => by
    rw [GlaLead.parted]
    split
    · rw [parted_sum r]; simp
    · rw [List.flatMap_cons, parted_sum r]; simp
theorem flat_few : ∀ ls : List (List St2), (∀ l ∈ ls, l ≠ []) → ls.length ≤ (ls.flatMap fun l => l).length
  | [], _ => Nat.le_refl _
  | l :: r, h => by
    have := flat_few r fun x hx => h x (List.mem_cons_of_mem _ hx)
    have h2 : 0 < l.length := List.length_pos_iff.2 (h l List.mem_cons_self)
    rw [List.flatMap_cons, List.length_append, List.length_cons]
    omega
theorem pcs_sum : ∀ ws : List (List St2), (ws.flatMap (GlaLead.parted s S [])).flatMap (fun l => l) = ws.flatMap fun w => w
  | [] => rfl
  | w :: r => by rw [List.flatMap_cons, List.flatMap_append, pcs_sum r, parted_sum]; rfl
theorem pcs_ne (ws : List (List St2)) : ∀ l ∈ ws.flatMap (GlaLead.parted s S []), l ≠ [] := by
  intro l hl
  obtain ⟨w, _, h⟩ := List.mem_flatMap.1 hl
  exact parted_ne w [] l h
theorem flat_map_len : ∀ ws : List (List St2), (ws.flatMap fun w => w.map (·.2)).length = (ws.flatMap fun w => w).length
  | [] => rfl
  | w :: r => by rw [List.flatMap_cons, List.flatMap_cons, List.length_append, List.length_append, List.length_map, flat_map_len r]
theorem pcs_few (ws : List (List St2)) : (ws.flatMap (GlaLead.parted s S [])).length ≤ (ws.flatMap fun w => w.map (·.2)).length := by
  have := flat_few _ (pcs_ne (s := s) (S := S) ws)
  rw [pcs_sum] at this
  rw [flat_map_len]; exact this
/-- what each strip is -/
structure Wy (S : Plan) (ws : List St2) : Prop where
  ch : Chn S ws
  ne : ws ≠ []
  ld : ∀ z ∈ ws, z.2 ∈ GlaLead.leads S
  len : ws.length ≤ S.lines.length
theorem strip_wy (lt : ∀ m ∈ S.lines, m.1 < m.2) (bd : Bd S) {l : Nat} (hl : l ∈ GlaLead.leads S) : Wy S (GlaLead.stripOf s S l) := by
  obtain ⟨f, m, r, hw, hm⟩ := strip_mem (s := s) lt bd hl
  have hg : ∀ j x, (GlaLead.stripOf s S l)[j]? = some x → j ≤ m ∧ f j = x := by
    intro j x h
    rw [hw, List.getElem?_map] at h
    obtain ⟨i, hi, rfl⟩ := Option.map_eq_some_iff.1 h
    obtain ⟨h1, h2⟩ := List.getElem?_eq_some_iff.1 hi
    rw [List.length_range] at h1
    rw [List.getElem_range] at h2
    subst h2
    exact ⟨by omega, rfl⟩
  refine ⟨fun j x y hx hy => ?_, ?_, fun z hz => ?_, ?_⟩
  · obtain ⟨h1, rfl⟩ := hg j x hx
    obtain ⟨h2, rfl⟩ := hg (j + 1) y hy
    exact (nxt_some (r.p.step j (by omega))).2
  · rw [hw, range_head]; exact List.cons_ne_nil _ _
  · rw [hw] at hz
    obtain ⟨k, hk, rfl⟩ := mem_run.1 hz
    exact ((hm _).2 ⟨k, hk, rfl⟩).lead hl
  · rw [hw, List.length_map, List.length_range]
    exact path_len1 lt r.p r.no
theorem sfold_wy (lt : ∀ m ∈ S.lines, m.1 < m.2) (bd : Bd S) (srt : ∀ i j, i ≤ j → j < S.lines.length → (GlaLead.lineOf S i).1 ≤ (GlaLead.lineOf S j).1) : (∀ ws ∈ (sfold s S (GlaLead.leads S)).2, Wy S ws) ∧ ((sfold s S (GlaLead.leads S)).2.flatMap fun w => w.map (·.2)).length ≤ S.lines.length := by
  obtain ⟨h, h2⟩ := strips_eq (s := s) lt bd srt
  constructor
  · intro ws hws
    rw [h.out] at hws
    obtain ⟨l, hl, rfl⟩ := List.mem_map.1 hws
    exact strip_wy lt bd (List.mem_filter.1 hl).1
  · rw [← h.flat]
    have := Geo.sub_len (m := List.range S.lines.length) h.nd fun j hj => by
      obtain ⟨l, a, b, c⟩ := (h.had j).1 hj
      exact List.mem_range.2 (leads_lt (c.lead a))
    simpa using this
end
section
variable {K : PySem.W.Frag} {σ : L2.St} {H : Hp} {ta te : TE} {D : Ends}
theorem s_extR {l : Addr} {xs : List V} {Pq : Addr → List V → Hp → Prop} (hl : H l = some (.lst xs)) (ha : ∀ H', Ev ta σ H' (.ref l)) (h : EvR te σ H (fun v H' => ∃ q ys, v = .ref q ∧ H' q = some (.lst ys) ∧ Pq q ys H')) (hz : ∀ q ys H', Pq q ys H' → xs.length + ys.length ≤ 100000)
    (k : ∀ q ys H1, Ex H H1 → H1 q = some (.lst ys) → Pq q ys H1 → D.nx σ (upd H1 l (.lst (xs ++ ys)))) :
    tDrop (tBM K "list" rExtend ta (tCons te tNil)) D σ H := ha H H (Ex.refl H) _ fun H1 e1 =>
  ⟨Or.inl ⟨rfl, xs, sq_of (e1 l _ hl)⟩, h H1 e1 _ fun v H2 e2 r => by
    obtain ⟨q, ys, rfl, hq, hP⟩ := r
    exact ⟨l, q, xs, ys, rfl, rfl, e2 l _ (e1 l _ hl), hq, sz_of (hz q ys H2 hP), k q ys H2 (e1.trans e2) hq hP⟩⟩
theorem s_extL {l : Addr} {xs ys : List V} (hl : H l = some (.lst xs)) (ha : ∀ H', Ev ta σ H' (.ref l)) (h : EvL te σ H ys) (hz : xs.length + ys.length ≤ 100000) (k : ∀ H1, Ex H H1 → D.nx σ (upd H1 l (.lst (xs ++ ys)))) :
    tDrop (tBM K "list" rExtend ta (tCons te tNil)) D σ H := ha H H (Ex.refl H) _ fun H1 e1 =>
  ⟨Or.inl ⟨rfl, xs, sq_of (e1 l _ hl)⟩, h H1 e1 _ fun q H2 hq e2 h2 => ⟨l, q, xs, ys, rfl, rfl, e2 l _ (e1 l _ hl), h2, sz_of hz, k H2 (e1.trans e2)⟩⟩
end
section
variable {P : Program} {w : World} {K : PySem.W.Frag} {mg : Str → Option Value} {base : Heap} {C C2 C3 : Addr}
theorem isStr.del {S : Plan} {ws : List St2} {v : V} {H : Hp} {pl : Addr} {us : List V} (h : isStr C2 S ws v H) (hne : ws ≠ []) (hp : H pl = some (.lst us)) (hus : ∀ u ∈ us, ∃ a, u = V.ref a) : isStr C2 S ws v (del H pl) := by
  obtain ⟨a, dx, fs, la, lp, h1, h2, h3, h4, h5, h6⟩ := h
  obtain ⟨z, r, rfl⟩ := List.exists_cons_of_ne_nil hne
  refine ⟨a, dx, fs, la, lp, h1, ?_, h3, h4, ?_, ?_⟩
  · rw [del_ne]; exact h2
    rintro rfl; rw [hp] at h2; cases h2
  · rw [del_ne]; exact h5
    rintro rfl; rw [hp] at h5
    injection h5 with q; injection q with q
    exact intsV_ne hus q.symm
  · rw [del_ne]; exact h6
    rintro rfl; rw [hp] at h6
    injection h6 with q; injection q with q
    have hrp : ∃ r', GlaLead.rowPts S (z :: r) = z.1 :: r' := ⟨_, rfl⟩
    obtain ⟨r', hr'⟩ := hrp
    rw [hr'] at q
    exact intsV_ne hus q.symm
theorem isPc.del {s : LeadShop} {S : Plan} {l : List St2} {v : V} {H : Hp} {pl : Addr} {us : List V} (h : isPc C3 s S l v H) (hne : l ≠ []) (hp : H pl = some (.lst us)) (hus : ∀ u ∈ us, ∃ a, u = V.ref a) : isPc C3 s S l v (del H pl) := by
  obtain ⟨a, dx, fs, lp, h1, h2, h3, h4, h6⟩ := h
  obtain ⟨z, r, rfl⟩ := List.exists_cons_of_ne_nil hne
  refine ⟨a, dx, fs, lp, h1, ?_, h3, h4, ?_⟩
  · rw [del_ne]; exact h2
    rintro rfl; rw [hp] at h2; cases h2
  · rw [del_ne]; exact h6
    rintro rfl; rw [hp] at h6
    injection h6 with q; injection q with q
    have hrp : ∃ r', GlaLead.rowPts S (z :: r) = z.1 :: r' := ⟨_, rfl⟩
    obtain ⟨r', hr'⟩ := hrp
    rw [hr'] at q
    exact intsV_ne hus q.symm
theorem Its.imp {α : Type} {R R' : α → V → Hp → Prop} {xs : List α} {us : List V} {H H' : Hp} (h : Its R xs us H) (f : ∀ x ∈ xs, ∀ v, R x v H → R' x v H') : Its R' xs us H' := ⟨h.1, fun i x hx => (h.2 i x hx).imp fun v z => ⟨z.1, f x (List.mem_of_getElem? hx) v z.2⟩⟩
theorem Its.app {α : Type} {R : α → V → Hp → Prop} {xs ys : List α} {us vs : List V} {H : Hp} (h : Its R xs us H) (h2 : Its R ys vs H) : Its R (xs ++ ys) (us ++ vs) H := by
  refine ⟨by rw [List.length_append, List.length_append, h.1, h2.1], fun i x hx => ?_⟩
  by_cases q : i < xs.length
  · rw [List.getElem?_append_left q] at hx
    obtain ⟨v, h3, h4⟩ := h.2 i x hx
    exact ⟨v, by rw [List.getElem?_append_left (by rw [h.1]; exact q)]; exact h3, h4⟩
  · rw [List.getElem?_append_right (by omega)] at hx
    obtain ⟨v, h3, h4⟩ := h2.2 _ x hx
    exact ⟨v, by rw [List.getElem?_append_right (by rw [h.1]; omega), h.1]; exact h3, h4⟩
theorem Its.refs {s : LeadShop} {S : Plan} {xs : List (List St2)} {us : List V} {H : Hp} (h : Its (isPc C3 s S) xs us H) : ∀ u ∈ us, ∃ a, u = V.ref a := by
  intro u hu
  obtain ⟨j, hj⟩ := List.mem_iff_getElem?.1 hu
  obtain ⟨z, hz, r⟩ := h.get hj
  obtain ⟨a, _, _, _, rfl, _⟩ := r
  exact ⟨a, rfl⟩
def Apcs (K : PySem.W.Frag) (C C3 : Addr) : List V → Hp → (V → Hp → Prop) → Prop := fun vs H R => ∃ (x : V) (S : Plan) (s : LeadShop), vs = [x, .int (s.a : Int), .int (s.b : Int), .int (s.bar : Int), .int (s.joint : Int)] ∧ isDr K C S x H ∧ Pre s S ∧ Bd S ∧ (∀ i j, i ≤ j → j < S.lines.length → (GlaLead.lineOf S i).1 ≤ (GlaLead.lineOf S j).1) ∧ s.joint ≤ 65535 ∧
  GlaLead.tooLong s S = none ∧ R = isLX (isPc C3 s S) (GlaLead.pieces s S)
theorem Apcs.mono : Mono (Apcs K C C3) := fun vs H H' v e ⟨x, S, s, h, h1, h2⟩ => ⟨x, S, s, h, h1.mono e, h2⟩
abbrev s_pieces_of : Stmt := topS 45
abbrev N_pieces_of : List Str := ["drawing", "a", "b", "bar", "joint", "lengths", "pieces_so_far", "strip"]
theorem sc_pieces_of : FnScope N_pieces_of ["drawing", "a", "b", "bar", "joint"] (defScope s_pieces_of) := ⟨rfl, rfl, rfl, by decide +kernel, rfl, by decide +kernel, by decide +kernel⟩
theorem k_pieces_of (F : Dfn K mg "pieces_of" s_pieces_of ["drawing", "a", "b", "bar", "joint"]) (c_lengths_of : Cal P w K mg base 3 "lengths_of" (spR (Alo K C))) (c_strips_of : Cal P w K mg base 5 "strips_of" (spR (Aso K C C2))) (c_parted : Cal P w K mg base 3 "parted" (spR (Aptd K C2 C3))) : Cal P w K mg base 6 "pieces_of" (spR (Apcs K C C3)) := by
  refine mk_R F sc_pieces_of (fun vs H v h => by obtain ⟨_, _, _, rfl, _⟩ := h; rfl) (fun f cdv A' outer s0 H vs E v0 hr a => ?_)
  obtain ⟨x, S, s, rfl, id0, pre, bd, srt, hj, hfit, rfl⟩ := a
  obtain ⟨wy, few⟩ := sfold_wy (s := s) pre.gn.lt bd srt
  have hpe : GlaLead.pieces s S = (sfold s S (GlaLead.leads S)).2.flatMap (GlaLead.parted s S []) := by
    rw [GlaLead.pieces, (strips_eq (s := s) pre.gn.lt bd srt).2]
  rw [hpe]
  have hpf := pcs_few (s := s) (S := S) (sfold s S (GlaLead.leads S)).2
  have nl := pre.nl
  refine ⟨_, (pss_cons (ps_set (i := 5) sc_pieces_of.nd rfl (Or.inl rfl) (pe_c c_lengths_of hr (by decide) (by rfl) (pa_cons (pv 0) pa_nil)))
      (pss_cons (ps_set (i := 6) sc_pieces_of.nd rfl (Or.inl rfl) (pe_lst pa_nil))
      (pss_cons (ps_for PassesOwn.never rfl (pi_list (pe_c c_strips_of hr (by decide) (by rfl) (pa_cons (pv 0) (pa_cons (pv 1) (pa_cons (pv 2) pa_nil))))) (pg_name (i := 7) sc_pieces_of.nd rfl (Or.inl rfl))
        (pss_one (ps_expr (pe_bm PySem.F.plainAttrs_list PySem.F.slot_list_extend PySem.F.type_list_extend mt_extend (pv 6) (pa_cons (pe_c c_parted hr (by decide) (by rfl) (pa_cons (pv 7) (pa_cons (pv 5) (pa_cons (pv 3) (pa_cons (pv 4) pa_nil))))) pa_nil)))))
      (pss_one (ps_ret (pv 6)))))), fun Q kq => ?_⟩
  apply q_asgR
  · exact er_callR Alo.mono (vs := [x]) (ea_cons (ev_var rfl) ea_nil) ⟨x, S, rfl, id0, pre.gn, nl, bd, rfl⟩
  intro gv H1 e1 ig
  obtain ⟨g, rfl, hg⟩ := ig
  apply q_asgL (xs := [])
  · exact el_lst ea_nil (by show 0 ≤ 100000; decide)
  intro pl H2 hpl e2 hpl2
  have hbpl : H1 pl = none := hpl
  have e02 := e1.trans e2
  have er := er_callR (σ := [some x, some (.int (s.a : Int)), some (.int (s.b : Int)), some (.int (s.bar : Int)), some (.int (s.joint : Int)), some (.ref g), some (.ref pl), none]) (H := H2) (tr := tCons (tVar 0) (tCons (tVar 1) (tCons (tVar 2) tNil))) (Aso.mono (K := K) (C := C) (C2 := C2)) (vs := [x, .int (s.a : Int), .int (s.b : Int)]) (ea_cons (ev_var rfl) (ea_cons (ev_var rfl) (ea_cons (ev_var rfl) ea_nil))) ⟨x, S, s, rfl, id0.mono e02, pre.gn, nl, pre.ab, pre.deg, rfl⟩
  refine er H2 (Ex.refl H2) _ ?_
  rintro v H3 e3 ⟨p, vs, rfl, hp, its⟩
  have hpl3 := e3 _ _ hpl2
  have hg3 := (e2.trans e3) _ _ hg
  generalize (sfold s S (GlaLead.leads S)).2 = ws at *
  have ngp : g ≠ pl := fun z => by rw [z, hpl3] at hg3; cases hg3
  have apart : vs ≠ [] → p ≠ pl := by
    rintro hne rfl
    rw [hpl3] at hp
    injection hp with q; injection q with q
    exact hne q.symm
  have eB : Ex H1 (del H3 pl) := ex_del (e2.trans e3) hbpl
  have itsB : Its (isStr C2 S) ws vs (del H3 pl) := its.imp fun y hy v h => h.del (wy y hy).ne hpl3 (fun u hu => nomatch hu)
  have hgB : (del H3 pl) g = some (.dK (kvL S (GlaLead.leads S))) := by rw [del_ne ngp]; exact hg3
  refine ⟨p, rfl, ⟨_, sq_of hp⟩, for_list (xs := vs) (fun i σ' H' => ∃ (Hf : Hp) (us : List V) (o7 : Option V), Hf pl = none ∧ Ex (del H3 pl) Hf ∧ Ex Hf H' ∧ H' pl = some (.lst us) ∧ H' p = some (.lst vs) ∧ Its (isPc C3 s S) ((ws.take i).flatMap (GlaLead.parted s S [])) us Hf ∧
    σ' = [some x, some (.int (s.a : Int)), some (.int (s.b : Int)), some (.int (s.bar : Int)), some (.int (s.joint : Int)), some (.ref g), some (.ref pl), o7] ∨ (vs = [] ∧ i = 0 ∧ H' = H3 ∧ σ' = [some x, some (.int (s.a : Int)), some (.int (s.b : Int)), some (.int (s.bar : Int)), some (.int (s.joint : Int)), some (.ref g), some (.ref pl), none])) ?_ ?_ ?_ ?_⟩
  · by_cases hv : vs = []
    · exact ⟨H3, [], none, .inr ⟨hv, rfl, rfl, rfl⟩⟩
    · exact ⟨del H3 pl, [], none, .inl ⟨del_at, Ex.refl _, del_ex, hpl3, hp, Its.nil, rfl⟩⟩
  · rintro i σ' H' _ ⟨Hf, us, o7, ⟨_, _, _, _, h, _⟩ | ⟨hv, _, rfl, _⟩⟩
    · exact sq_of h
    · exact sq_of hp
  · rintro i v σ' H4 hv ⟨Hf, us, o7, ⟨q1, q2, q3, q4, q5, q6, rfl⟩ | ⟨hn, _⟩⟩
    case inr => rw [hn] at hv; simp at hv
    obtain ⟨z, hz, iz⟩ := itsB.get hv
    have hzm := List.mem_of_getElem? hz
    have wz := wy z hzm
    have hne : vs ≠ [] := fun y => by rw [y] at hv; simp at hv
    have npp := apart hne
    have htk : ws.take (i + 1) = ws.take i ++ [z] := by rw [List.take_add_one, hz]; rfl
    have hlen : ((ws.take i).flatMap (GlaLead.parted s S [])).length + (GlaLead.parted s S [] z).length ≤ (ws.flatMap (GlaLead.parted s S [])).length := by
      have e : ws = ws.take (i + 1) ++ ws.drop (i + 1) := (List.take_append_drop _ _).symm
      rw [htk] at e
      have : (ws.flatMap (GlaLead.parted s S [])).length = ((ws.take i).flatMap (GlaLead.parted s S [])).length + (GlaLead.parted s S [] z).length + ((ws.drop (i + 1)).flatMap (GlaLead.parted s S [])).length := by
        conv => lhs; rw [e]
        rw [List.flatMap_append, List.flatMap_append, List.length_append, List.length_append, List.flatMap_singleton]
      omega
    refine s_extR (l := pl) (xs := us) (Pq := fun q ys H' => Its (isPc C3 s S) (GlaLead.parted s S [] z) ys H') q4 (fun H' => ev_var rfl) ?_ ?_ ?_
    · have e23 := q2.trans q3
      exact er_callR Aptd.mono (vs := [v, .ref g, .int (s.bar : Int), .int (s.joint : Int)]) (ea_cons (ev_var rfl) (ea_cons (ev_var rfl) (ea_cons (ev_var rfl) (ea_cons (ev_var rfl) ea_nil)))) ⟨v, .ref g, S, s, z, rfl, iz.mono e23, ⟨g, rfl, e23 _ _ hgB⟩, hj, wz.ch, wz.ne, wz.ld, hfit, Nat.le_trans wz.len nl, rfl⟩
    · intro q ys H5 h5
      rw [q6.1, h5.1]; omega
    · intro q ys H5 e5 hq5 h5
      have q45 := e5 _ _ q4
      have eD : Ex Hf (del H5 pl) := ex_del (q3.trans e5) q1
      refine ⟨del H5 pl, us ++ ys, some v, .inl ⟨del_at, q2.trans eD, Ex.mut del_ex del_at, upd_same, by rw [upd_ne npp]; exact e5 _ _ q5, ?_, rfl⟩⟩
      rw [htk, List.flatMap_append, List.flatMap_singleton]
      exact (q6.mono monoPc eD).app (h5.imp fun y hy v h => h.del (parted_ne z [] y hy) q45 q6.refs)
  · rintro σ' H4 ⟨Hf, us, o7, ⟨q1, q2, q3, q4, q5, q6, rfl⟩ | ⟨hn, _, rfl, rfl⟩⟩
    · rw [its.1, List.take_length] at q6
      dsimp only
      apply s_ret
      · exact ev_var rfl
      · intro H5 e5
        exact kq _ H5 (e1.trans (eB.trans (q2.trans (q3.trans e5)))) ⟨pl, us, rfl, e5 _ _ q4, q6.mono monoPc (q3.trans e5)⟩
    · have hw : ws = [] := by
        have := its.1
        rw [hn] at this
        exact List.length_eq_zero_iff.1 this.symm
      dsimp only
      apply s_ret
      · exact ev_var rfl
      · intro H5 e5
        refine kq _ H5 ((e02.trans e3).trans e5) ⟨pl, [], rfl, e5 _ _ hpl3, ?_⟩
        rw [hw]; exact Its.nil
end
end Hl
end PHl44

section PHl45
set_option Elab.async false
set_option linter.all false
set_option maxRecDepth 100000
set_option maxHeartbeats 4000000
local macro_rules | `(tactic| walk_at "ev") => `(tactic| (first
  | exact Evl.ev_c
  | exact Evl.ev_var rfl
  | (apply Hl.ev_I0 <;> walk_at "ev")
  | (apply Hl.ev_I <;> walk_at "ev")
  | (apply Hl.ev_ixT <;> walk_at "ev")
  | (apply Hl.ev_ixL <;> walk_at "ev")
  | exact Evl.ea_nil
  | (apply Evl.ea_cons <;> walk_at "ev")
  | (apply Hl.ev_callV <;> first | assumption | walk_at "ev")
  | (apply Hl.ev_eq <;> walk_at "ev")
  | (apply Hl.ev_ne <;> walk_at "ev")
  | (apply Hl.ev_fld <;> first | assumption | walk_at "ev")
  | (apply Hl.ev_lenL <;> first | assumption | walk_at "ev")
  | (apply Hl.ev_chain <;> first | (refine fun (_ : _ = _) => ?_; walk_at "ev") | walk_at "ev")
  | (apply Evl.ev_orV <;> first | (refine fun (_ : _ = _) => ?_; walk_at "ev") | walk_at "ev")
  | (apply Evl.ev_andV <;> first | (refine fun (_ : _ = _) => ?_; walk_at "ev") | walk_at "ev")
  | (apply Evl.ev_notV <;> walk_at "ev")
  | (apply Evl.et_test <;> walk_at "ev")
  | (apply Evl.et_B <;> walk_at "ev")
  | (apply Evl.et_not <;> walk_at "ev")
  | (apply Evl.et_and <;> first | (refine fun (_ : _ = _) => ?_; walk_at "ev") | walk_at "ev")
  | (apply Evl.et_or <;> first | (refine fun (_ : _ = _) => ?_; walk_at "ev") | walk_at "ev")
  | assumption
  | (exact Evl.st_of (by assumption))
  | exact rfl
  | skip))

namespace Hl
open PySem PySem.Spec PyProof.Rows L2 Evl
open GlaPlan (Pt Plan)
open GlaLead (LeadShop)
/-! ### refused, a lead too long told too -/
def refuse2 (s : LeadShop) (b : List UInt8) : Option (List Int) := match refuse s b with
  | some l => some l
  | none => match GlaLead.tooLong s (GlaPlan.parts b) with
    | some i => some [-3, (i : Int)]
    | none => none
/-- what is known of bytes that are not refused -/
structure Pre2 (s : LeadShop) (b : List UInt8) : Prop where
  len : b.length = sizeAt b
  pre : Pre s (GlaPlan.parts b)
  bd : Bd (GlaPlan.parts b)
  srt : ∀ i j, i ≤ j → j < (GlaPlan.parts b).lines.length → (GlaLead.lineOf (GlaPlan.parts b) i).1 ≤ (GlaLead.lineOf (GlaPlan.parts b) j).1
  jt : s.joint ≤ 65535
theorem pre2_of {s : LeadShop} {b : List UInt8} (few : GlaBase.num b 12 2 ≤ 200) (h : refuse s b = none) : Pre2 s b := by
  obtain ⟨h1, h2⟩ := pre_of few h
  obtain ⟨g1, g2, g3⟩ := refuse_none h
  obtain ⟨_, f⟩ := fine_of g3
  refine ⟨h1, h2, f.bd, f.srt, ?_⟩
  rw [LeadShop.ok] at g1
  simp only [GlaPlan.within, Bool.and_eq_true, decide_eq_true_eq] at g1
  omega
section
variable {P : Program} {w : World} {K : PySem.W.Frag} {mg : Str → Option Value} {base : Heap} {C C2 C3 : Addr}
def Arp (K : PySem.W.Frag) : List V → Hp → (V → Hp → Prop) → Prop := fun vs H R => ∃ (s : LeadShop) (x : V) (b : List UInt8), vs = shopV s ++ [x] ∧ isBy K b x H ∧ (refuse s b = none → Pre2 s b) ∧ R = isOL (refuse2 s b)
theorem Arp.mono : Mono (Arp K) := fun vs H H' v e ⟨s, x, b, h, h1, h2⟩ => ⟨s, x, b, h, h1.mono e, h2⟩
abbrev s_refusal_of_parting : Stmt := topS 85
abbrev N_refusal_of_parting : List Str := ["a", "b", "bar", "joint", "loss", "cartoon", "refusal", "too_long"]
theorem sc_refusal_of_parting : FnScope N_refusal_of_parting ["a", "b", "bar", "joint", "loss", "cartoon"] (defScope s_refusal_of_parting) := ⟨rfl, rfl, rfl, by decide +kernel, rfl, by decide +kernel, by decide +kernel⟩
theorem k_refusal_of_parting (F : Dfn K mg "refusal_of_parting" s_refusal_of_parting ["a", "b", "bar", "joint", "loss", "cartoon"]) (c_refusal_of : Cal P w K mg base 8 "refusal_of" (spR (Arf K))) (c_drawing_of : Cal P w K mg base 4 "drawing_of" (spR (Adrw K C)))
    (c_lengths_of : Cal P w K mg base 3 "lengths_of" (spR (Alo K C))) (c_lead_too_long : Cal P w K mg base 1 "lead_too_long" (spV Atl)) : Cal P w K mg base 9 "refusal_of_parting" (spR (Arp K)) := by
  refine mk_R F sc_refusal_of_parting (fun vs H v h => by obtain ⟨s, _, _, rfl, _⟩ := h; rfl) (fun f cdv A' outer s0 H vs E v0 hr a => ?_)
  obtain ⟨s, x, b, rfl, ib, hpre, rfl⟩ := a
  refine ⟨_, (pss_cons (ps_set (i := 6) sc_refusal_of_parting.nd rfl (Or.inl rfl) (pe_c c_refusal_of hr (by decide) (by rfl) (pa_cons (pv 0) (pa_cons (pv 1) (pa_cons (pv 2) (pa_cons (pv 3) (pa_cons (pv 4) (pa_cons (pv 5) pa_nil))))))))
      (pss_cons (ps_if (pt_cmpR op_notN (pv 6) pe_non (nomark _)) (pss_one (ps_ret (pv 6))) pss_nil)
      (pss_cons (ps_set (i := 7) sc_refusal_of_parting.nd rfl (Or.inl rfl) (pe_c c_lead_too_long hr (by decide) (by rfl) (pa_cons (pe_c c_lengths_of hr (by decide) (by rfl) (pa_cons (pe_c c_drawing_of hr (by decide) (by rfl) (pa_cons (pv 5) pa_nil)) pa_nil)) (pa_cons (pv 2) (pa_cons (pv 3) pa_nil)))))
      (pss_cons (ps_if (pt_cmpR op_notN (pv 7) pe_non (nomark _)) (pss_one (ps_ret (pe_lst (pa_cons (pe_un un_neg pe_int) (pa_cons (pv 7) pa_nil))))) pss_nil)
      (pss_one (ps_ret pe_non)))))), fun Q kq => ?_⟩
  rw [refuse2] at kq
  apply q_asgR
  · refine er_callR Arf.mono (vs := shopV s ++ [x]) ?_ ⟨s, x, b, rfl, ib, rfl⟩
    exact ea_cons (ev_var rfl) (ea_cons (ev_var rfl) (ea_cons (ev_var rfl) (ea_cons (ev_var rfl) (ea_cons (ev_var rfl) (ea_cons (ev_var rfl) ea_nil)))))
  intro v1 H1 e1 io
  generalize refuse s b = o at *
  cases o with
  | some l =>
    obtain ⟨p, rfl, hp⟩ := io
    apply q_when (b := true)
    · exact et_test fun H4 e4 Q q => ⟨.ref p, rfl, rfl, q H4 (Ex.refl H4)⟩
    · intro _ H2 e2
      apply s_ret
      · exact ev_var rfl
      · exact fun H3 e3 => kq _ H3 ((e1.trans e2).trans e3) ⟨p, rfl, (e2.trans e3) _ _ hp⟩
    · intro z; cases z
  | none =>
    obtain rfl : v1 = .non := io
    apply q_when (b := false)
    · exact et_test fun H4 e4 Q q => ⟨.non, rfl, rfl, q H4 (Ex.refl H4)⟩
    · intro z; cases z
    · intro _ H2 e2
      have p2 := hpre rfl
      have e02 := e1.trans e2
      simp only at kq
      generalize hSS : GlaPlan.parts b = S at *
      apply q_asg (v := opV (GlaLead.tooLong s S))
      · intro H3 e3 Q' q'
        refine er_callR (R := isDr K C (GlaPlan.parts b)) Adrw.mono (vs := [x]) (ea_cons (ev_var rfl) ea_nil) ⟨x, b, rfl, ib.mono e02, p2.len, rfl⟩ H3 e3 _ ?_
        intro d H4 e4 id
        rw [hSS] at id
        refine ⟨_, ⟨d, S, rfl, id, hSS ▸ p2.pre.gn, hSS ▸ p2.pre.nl, hSS ▸ p2.bd, rfl⟩, fun v H5 e5 ikl => ?_⟩
        refine ⟨.int (s.bar : Int), rfl, .int (s.joint : Int), rfl, ?_⟩
        exact ⟨_, ⟨v, S, s, rfl, ikl, p2.jt, rfl⟩, fun H6 e6 => q' H6 (e4.trans (e5.trans e6))⟩
      intro H3 e3
      have e03 := e02.trans e3
      generalize GlaLead.tooLong s S = o at *
      cases o with
      | none =>
        apply q_when (b := false)
        · exact et_test fun H4 e4 Q q => ⟨.non, rfl, rfl, q H4 (Ex.refl H4)⟩
        · intro z; cases z
        · intro _ H4 e4
          apply s_ret
          · exact ev_c
          · exact fun H5 e5 => kq _ H5 ((e03.trans e4).trans e5) rfl
      | some i =>
        apply q_when (b := true)
        · exact et_test fun H4 e4 Q q => ⟨.int i, rfl, rfl, q H4 (Ex.refl H4)⟩
        · intro _ H4 e4
          apply s_retL (xs := [.int (-3), .int (i : Int)])
          · exact el_lst (ea_cons (ev_un ev_c ru_neg) (ea_cons (ev_var rfl) ea_nil)) (by simp)
          · intro l H5 hl e5 h5
            exact kq _ H5 ((e03.trans e4).trans e5) ⟨l, rfl, h5⟩
        · intro z; cases z
/-! ### pieces -/
def outP (s : LeadShop) (S : Plan) (l : List St2) : List Int := (GlaLead.pieceLong s S l : Int) :: outRow (GlaLead.rowPts S l)
def outPs (s : LeadShop) (S : Plan) (ls : List (List St2)) : List Int := (0 : Int) :: ((ls.length : Int) :: ls.flatMap (outP s S))
def piecesV (s : LeadShop) (b : List UInt8) : List Int := match refuse2 s b with
  | some l => l
  | none => outPs s (GlaPlan.parts b) (GlaLead.pieces s (GlaPlan.parts b))
theorem outP_len (s : LeadShop) (S : Plan) : ∀ ls : List (List St2), (∀ l ∈ ls, l ≠ []) → (ls.flatMap (outP s S)).length ≤ 4 * (ls.flatMap fun l => l).length
  | [], _ => Nat.le_refl _
  | l :: r, h => by
    have ih := outP_len s S r fun x hx => h x (List.mem_cons_of_mem _ hx)
    have hw := h l List.mem_cons_self
    have h1 := rowPts_len S hw
    have h2 : 0 < l.length := List.length_pos_iff.2 hw
    rw [List.flatMap_cons, List.flatMap_cons, List.length_append, List.length_append, outP, List.length_cons, outRow, List.length_cons, List.length_map, h1]
    omega
theorem pieces_size {s : LeadShop} {S : Plan} (pre : Pre s S) (bd : Bd S) (srt : ∀ i j, i ≤ j → j < S.lines.length → (GlaLead.lineOf S i).1 ≤ (GlaLead.lineOf S j).1) : (outPs s S (GlaLead.pieces s S)).length ≤ 90000 ∧ (GlaLead.pieces s S).length ≤ 8192 ∧ ∀ l ∈ GlaLead.pieces s S, l ≠ [] := by
  obtain ⟨wy, few⟩ := sfold_wy (s := s) pre.gn.lt bd srt
  have hpe : GlaLead.pieces s S = (sfold s S (GlaLead.leads S)).2.flatMap (GlaLead.parted s S []) := by
    rw [GlaLead.pieces, (strips_eq (s := s) pre.gn.lt bd srt).2]
  rw [hpe]
  have h1 := pcs_few (s := s) (S := S) (sfold s S (GlaLead.leads S)).2
  have h2 := outP_len s S _ (pcs_ne (s := s) (S := S) (sfold s S (GlaLead.leads S)).2)
  rw [pcs_sum, ← flat_map_len] at h2
  have nl := pre.nl
  refine ⟨?_, by omega, pcs_ne _⟩
  rw [outPs, List.length_cons, List.length_cons]
  omega
def Aps (K : PySem.W.Frag) : List V → Hp → (V → Hp → Prop) → Prop := fun vs H R => ∃ (s : LeadShop) (x : V) (b : List UInt8), vs = shopV s ++ [x] ∧ isBy K b x H ∧ (refuse s b = none → Pre2 s b) ∧ R = fun v H' => ∃ p, v = .ref p ∧ H' p = some (.lst ((piecesV s b).map V.int))
theorem Aps.mono : Mono (Aps K) := fun vs H H' v e ⟨s, x, b, h, h1, h2⟩ => ⟨s, x, b, h, h1.mono e, h2⟩
end
theorem pieces_told (s : LeadShop) (b : List UInt8) : Neutral.told (LeadSpec.answer (.pieces b s)) = piecesV s b := by
  rw [LeadSpec.answer, piecesV, refuse2, refuse]
  show Neutral.told (if s.ok = false then _ else _) = _
  by_cases h1 : s.ok = false
  · rw [if_pos h1, if_pos h1]; rfl
  · rw [if_neg h1, if_neg h1]
    show Neutral.told (LeadSpec.ofPlan b _) = _
    rw [ofPlan_eq]
    by_cases h2 : 131072 < b.length
    · rw [if_pos h2, if_pos h2]; rfl
    · rw [if_neg h2, if_neg h2]
      cases e : fFirst b with
      | some x => rfl
      | none =>
        simp only
        rw [LeadSpec.fits]
        cases e2 : GlaLead.tooLong s (GlaPlan.parts b) with
        | some i => rfl
        | none =>
          simp only
          rw [Neutral.told, outPs, List.length_map]
          congr 2
          rw [List.flatMap_map]
          congr 1
          funext l
          rw [Neutral.rowN, ints_len]; rfl
end Hl
end PHl45

section PHl45p
set_option Elab.async false
set_option linter.all false
set_option maxRecDepth 100000
set_option maxHeartbeats 4000000
local macro_rules | `(tactic| walk_at "ev") => `(tactic| (first
  | exact Evl.ev_c
  | exact Evl.ev_var rfl
  | (apply Hl.ev_I0 <;> walk_at "ev")
  | (apply Hl.ev_I <;> walk_at "ev")
  | (apply Hl.ev_ixT <;> walk_at "ev")
  | (apply Hl.ev_ixL <;> walk_at "ev")
  | exact Evl.ea_nil
  | (apply Evl.ea_cons <;> walk_at "ev")
  | (apply Hl.ev_callV <;> first | assumption | walk_at "ev")
  | (apply Hl.ev_eq <;> walk_at "ev")
  | (apply Hl.ev_ne <;> walk_at "ev")
  | (apply Hl.ev_fld <;> first | assumption | walk_at "ev")
  | (apply Hl.ev_lenL <;> first | assumption | walk_at "ev")
  | (apply Hl.ev_chain <;> first | (refine fun (_ : _ = _) => ?_; walk_at "ev") | walk_at "ev")
  | (apply Evl.ev_orV <;> first | (refine fun (_ : _ = _) => ?_; walk_at "ev") | walk_at "ev")
  | (apply Evl.ev_andV <;> first | (refine fun (_ : _ = _) => ?_; walk_at "ev") | walk_at "ev")
  | (apply Evl.ev_notV <;> walk_at "ev")
  | (apply Evl.et_test <;> walk_at "ev")
  | (apply Evl.et_B <;> walk_at "ev")
  | (apply Evl.et_not <;> walk_at "ev")
  | (apply Evl.et_and <;> first | (refine fun (_ : _ = _) => ?_; walk_at "ev") | walk_at "ev")
  | (apply Evl.et_or <;> first | (refine fun (_ : _ = _) => ?_; walk_at "ev") | walk_at "ev")
  | assumption
  | (exact Evl.st_of (by assumption))
  | exact rfl
  | skip))

namespace Hl
open PySem PySem.Spec PyProof.Rows L2 Evl
open GlaPlan (Pt Plan)
open GlaLead (LeadShop)
section
variable {P : Program} {w : World} {K : PySem.W.Frag} {mg : Str → Option Value} {base : Heap} {C C3 : Addr}
abbrev s_pieces : Stmt := topS 87
abbrev N_pieces : List Str := ["a", "b", "bar", "joint", "loss", "cartoon", "refusal", "told", "answer", "piece"]
theorem sc_pieces : FnScope N_pieces ["a", "b", "bar", "joint", "loss", "cartoon"] (defScope s_pieces) := ⟨rfl, rfl, rfl, by decide +kernel, rfl, by decide +kernel, by decide +kernel⟩
theorem k_pieces {f : Addr} {fd : FuncData} (T : Txt K mg) (D3 : PcC K C3) (F : Fun K "pieces" "pieces" s_pieces f fd) (c_refusal_of_parting : Cal P w K mg base 9 "refusal_of_parting" (spR (Arp K))) (c_drawing_of : Cal P w K mg base 4 "drawing_of" (spR (Adrw K C))) (c_pieces_of : Cal P w K mg base 6 "pieces_of" (spR (Apcs K C C3))) :
    FnOk P w K mg base CX0 10 f fd ["a", "b", "bar", "joint", "loss", "cartoon"] (spR (Aps K)) := by
  refine mk_RF F sc_pieces (fun vs H v h => by obtain ⟨_, _, _, rfl, _⟩ := h; rfl) (fun cdv A' outer s0 H vs E v0 hr a => ?_)
  obtain ⟨s, x, b, rfl, ib, hpre, rfl⟩ := a
  have cl3 := D3.cl
  have m1 := D3.n1
  have m2 := D3.n2
  refine ⟨_, (pss_cons (ps_set (i := 6) sc_pieces.nd rfl (Or.inl rfl) (pe_c c_refusal_of_parting hr (by decide) (by rfl) (pa_cons (pv 0) (pa_cons (pv 1) (pa_cons (pv 2) (pa_cons (pv 3) (pa_cons (pv 4) (pa_cons (pv 5) pa_nil))))))))
      (pss_cons (ps_if (pt_cmpR op_notN (pv 6) pe_non (nomark _)) (pss_one (ps_ret (pv 6))) pss_nil)
      (pss_cons (ps_set (i := 7) sc_pieces.nd rfl (Or.inl rfl) (pe_c c_pieces_of hr (by decide) (by rfl) (pa_cons (pe_c c_drawing_of hr (by decide) (by rfl) (pa_cons (pv 5) pa_nil)) (pa_cons (pv 0) (pa_cons (pv 1) (pa_cons (pv 2) (pa_cons (pv 3) pa_nil)))))))
      (pss_cons (ps_set (i := 8) sc_pieces.nd rfl (Or.inl rfl) (pe_lst (pa_cons pe_int (pa_cons (pe_callB call_len_seq (by rfl) T.len PySem.boot_len (pa_cons (pv 7) pa_nil)) pa_nil))))
      (pss_cons (ps_for PassesOwn.never rfl (pi_list (pv 7)) (pg_name (i := 9) sc_pieces.nd rfl (Or.inl rfl))
        (pss_cons (ps_expr (pe_bm PySem.F.plainAttrs_list PySem.F.slot_list_extend PySem.F.type_list_extend mt_extend (pv 8) (pa_cons (pe_lst (pa_cons (pe_fld (pv 9) rfl) (pa_cons (pe_callB call_len_seq (by rfl) T.len PySem.boot_len (pa_cons (pe_fld (pv 9) rfl) pa_nil)) pa_nil))) pa_nil)))
      (pss_one (ps_expr (pe_bm PySem.F.plainAttrs_list PySem.F.slot_list_extend PySem.F.type_list_extend mt_extend (pv 8) (pa_cons (pe_fld (pv 9) rfl) pa_nil))))))
      (pss_one (ps_ret (pv 8)))))))), fun Q kq => ?_⟩
  rw [piecesV] at kq
  apply q_asgR
  · refine er_callR Arp.mono (vs := shopV s ++ [x]) ?_ ⟨s, x, b, rfl, ib, hpre, rfl⟩
    exact ea_cons (ev_var rfl) (ea_cons (ev_var rfl) (ea_cons (ev_var rfl) (ea_cons (ev_var rfl) (ea_cons (ev_var rfl) (ea_cons (ev_var rfl) ea_nil)))))
  intro v1 H1 e1 io
  have hr2 : refuse2 s b = none → refuse s b = none ∧ GlaLead.tooLong s (GlaPlan.parts b) = none := by
    intro h
    rw [refuse2] at h
    cases e : refuse s b with
    | some l => rw [e] at h; cases h
    | none =>
      rw [e] at h
      cases e2 : GlaLead.tooLong s (GlaPlan.parts b) with
      | some i => simp only [e2] at h; cases h
      | none => exact ⟨rfl, rfl⟩
  generalize refuse2 s b = o at *
  cases o with
  | some l =>
    obtain ⟨p, rfl, hp⟩ := io
    apply q_when (b := true)
    · exact et_test fun H4 e4 Q q => ⟨.ref p, rfl, rfl, q H4 (Ex.refl H4)⟩
    · intro _ H2 e2
      apply s_ret
      · exact ev_var rfl
      · exact fun H3 e3 => kq _ H3 ((e1.trans e2).trans e3) ⟨p, rfl, (e2.trans e3) _ _ hp⟩
    · intro z; cases z
  | none =>
    obtain rfl : v1 = .non := io
    apply q_when (b := false)
    · exact et_test fun H4 e4 Q q => ⟨.non, rfl, rfl, q H4 (Ex.refl H4)⟩
    · intro z; cases z
    · intro _ H2 e2
      obtain ⟨hr0, hfit⟩ := hr2 rfl
      have p2 := hpre hr0
      have e02 := e1.trans e2
      simp only at kq
      obtain ⟨hsize, hcnt, hne⟩ := pieces_size p2.pre p2.bd p2.srt
      have er : EvR (tCall (spR (Apcs K C C3)) [] E0 (tCons (tCall (spR (Adrw K C)) [] E0 (tCons (tVar 5) tNil)) (tCons (tVar 0) (tCons (tVar 1) (tCons (tVar 2) (tCons (tVar 3) tNil)))))) ((L2.start N_pieces (shopV s ++ [x])).set 6 (some .non)) H2 (isLX (isPc C3 s (GlaPlan.parts b)) (GlaLead.pieces s (GlaPlan.parts b))) := by
        intro H3 e3 Q' q'
        refine er_callR Adrw.mono (vs := [x]) (ea_cons (ev_var rfl) ea_nil) ⟨x, b, rfl, ib.mono e02, p2.len, rfl⟩ H3 e3 _ ?_
        intro d H4 e4 id
        refine ⟨.int (s.a : Int), rfl, .int (s.b : Int), rfl, .int (s.bar : Int), rfl, .int (s.joint : Int), rfl, ?_⟩
        exact ⟨_, ⟨d, _, s, rfl, id, p2.pre, p2.bd, p2.srt, p2.jt, hfit, rfl⟩, fun v H5 e5 r => q' v H5 (e4.trans e5) r⟩
      apply q_asgR er
      intro tv H3 e3 it
      obtain ⟨tl, tus, rfl, htl0, iit⟩ := it
      have htl := sq_of (K := K) htl0
      generalize GlaPlan.parts b = S at *
      generalize GlaLead.pieces s S = ls at *
      have hlt : (tus.length : Int) = (ls.length : Int) := by rw [iit.1]
      apply q_asgL (xs := [.int 0, .int (ls.length : Int)])
      · refine el_lst ?_ (by show 2 ≤ 100000; decide)
        rw [← hlt]
        refine ea_cons ev_c (ea_cons ?_ ea_nil)
        exact ev_lenL (ev_var rfl) htl
      intro al H4 hal4 e4 hal
      have hbal : H3 al = none := hal4
      have hrow : ∀ k z, ls[k]? = some z → (ls.take (k + 1)).flatMap (outP s S) = (ls.take k).flatMap (outP s S) ++ outP s S z := by
        intro k z hz
        rw [List.take_add_one, hz, List.flatMap_append]
        simp
      have hpre2 : ∀ k, ((ls.take k).flatMap (outP s S)).length ≤ (ls.flatMap (outP s S)).length := by
        intro k
        conv => rhs; rw [← List.take_append_drop k ls, List.flatMap_append, List.length_append]
        omega
      rw [outPs, List.length_cons, List.length_cons] at hsize
      refine q_forLn (a := tl) (xs := tus) (ev_var rfl) (ex_l e4 htl) (fun k σ' H' => ∃ o9, Ex H3 H' ∧ H' al = some (.lst ((([0, (ls.length : Int)] : List Int) ++ (ls.take k).flatMap (outP s S)).map V.int)) ∧
        σ' = [some (.int (s.a : Int)), some (.int (s.b : Int)), some (.int (s.bar : Int)), some (.int (s.joint : Int)), some (.int (s.loss : Int)), some x, some .non, some (.ref tl), some (.ref al), o9]) ?_ ?_ ?_ ?_
      · intro H5 e5
        exact ⟨none, e4.trans e5, e5 _ _ hal, rfl⟩
      · rintro k σ' H' _ ⟨_, d1, _⟩
        exact ex_l d1 htl
      · rintro k v σ' H5 hv ⟨o9, d1, d2, rfl⟩
        obtain ⟨z, hz, r⟩ := iit.get hv
        obtain ⟨oa, dx, fs, lp, rfl, ho, k1, k2, hlp⟩ := r
        have hb1 := hpre2 (k + 1)
        rw [hrow k z hz, List.length_append, outP, List.length_cons, outRow, List.length_cons, List.length_map] at hb1
        have hlen : ((([0, (ls.length : Int)] : List Int) ++ (ls.take k).flatMap (outP s S)).map V.int).length = 2 + ((ls.take k).flatMap (outP s S)).length := by
          rw [List.length_map, List.length_append]; rfl
        have ho5 := d1 _ _ ho
        have hlp5 := d1 _ _ hlp
        refine s_extL (D := { nx := _, rt := _, bk := _, ct := _ }) (l := al) (ys := [.int (GlaLead.pieceLong s S z : Nat), .int ((intsV (GlaLead.rowPts S z)).length : Int)]) d2 (fun H' => ev_var rfl) ?_ (by rw [hlen]; simp only [List.length_cons, List.length_nil]; omega) ?_
        · exact el_lst (ea_cons (ev_fld (ev_var rfl) ho5 cl3 m1 k1) (ea_cons (ev_lenL (ev_fld (ev_var rfl) ho5 cl3 m2 k2) (sq_of hlp5)) ea_nil)) (by show 2 ≤ 100000; decide)
        intro H6 e6
        have x6 : Ex H3 (upd H6 al (.lst ((([0, (ls.length : Int)] : List Int) ++ (ls.take k).flatMap (outP s S)).map V.int ++ [.int (GlaLead.pieceLong s S z : Nat), .int ((intsV (GlaLead.rowPts S z)).length : Int)]))) := Ex.mut (d1.trans e6) hbal
        have hA : (upd H6 al (.lst ((([0, (ls.length : Int)] : List Int) ++ (ls.take k).flatMap (outP s S)).map V.int ++ [.int (GlaLead.pieceLong s S z : Nat), .int ((intsV (GlaLead.rowPts S z)).length : Int)]))) al = some (.lst ((([0, (ls.length : Int)] : List Int) ++ (ls.take k).flatMap (outP s S)).map V.int ++ [.int (GlaLead.pieceLong s S z : Nat), .int ((intsV (GlaLead.rowPts S z)).length : Int)])) := upd_same
        generalize (upd H6 al (.lst ((([0, (ls.length : Int)] : List Int) ++ (ls.take k).flatMap (outP s S)).map V.int ++ [.int (GlaLead.pieceLong s S z : Nat), .int ((intsV (GlaLead.rowPts S z)).length : Int)]))) = H7 at *
        refine s_ext (l := al) (q := lp) hA (ev_var rfl) (ev_fld (ev_var rfl) (x6 _ _ ho) cl3 m2 k2) (x6 _ _ hlp) ?_ ?_
        · rw [List.length_append, hlen, intsV_len]; simp only [List.length_cons, List.length_nil]; omega
        · intro H8 e8
          refine ⟨_, Ex.mut (x6.trans e8) hbal, ?_, rfl⟩
          rw [upd_same, hrow k z hz]
          congr 2
          rw [intsV_len, outP, outRow]
          simp [intsV]
      · rintro σ' H5 ⟨o9, d1, d2, rfl⟩
        rw [iit.1, List.take_length] at d2
        apply s_ret
        · exact ev_var rfl
        · intro H6 e6
          exact kq _ H6 (((e02.trans e3).trans d1).trans e6) ⟨al, rfl, e6 _ _ (by rw [d2, outPs]; rfl)⟩
end
end Hl
end PHl45p

section PTab_pieces
set_option Elab.async false
set_option linter.all false
set_option maxRecDepth 100000
set_option maxHeartbeats 8000000
namespace Hl
open PySem PySem.Spec PyProof.Rows L2 Evl
open GlaPlan (Pt Plan)
open GlaLead (LeadShop)
theorem all_mk {P : Program} {w : World} {K : PySem.W.Frag} {h : Heap} {mg : Str → Option Value} {fa : Addr} {t_HEAD_SIZE : _}
    {t_POINT_SIZE : _}
    {t_LINE_SIZE : _}
    {t_MARK_SIZE : _}
    {t_BEND_BITS : _}
    {t_MOST_BYTES : _}
    {f_number_at : Addr} {od_number_at an_number_at : Option Addr} {sl_number_at : Array (Option Value)} {oc_number_at kV_number_at dc_number_at pm_number_at cd_number_at ct_number_at : Value}
    {f_pair_at : Addr} {od_pair_at an_pair_at : Option Addr} {sl_pair_at : Array (Option Value)} {oc_pair_at kV_pair_at dc_pair_at pm_pair_at cd_pair_at ct_pair_at : Value}
    {f_lines_begin : Addr} {od_lines_begin an_lines_begin : Option Addr} {sl_lines_begin : Array (Option Value)} {oc_lines_begin kV_lines_begin dc_lines_begin pm_lines_begin cd_lines_begin ct_lines_begin : Value}
    {f_marks_begin : Addr} {od_marks_begin an_marks_begin : Option Addr} {sl_marks_begin : Array (Option Value)} {oc_marks_begin kV_marks_begin dc_marks_begin pm_marks_begin cd_marks_begin ct_marks_begin : Value}
    {f_asked_size : Addr} {od_asked_size an_asked_size : Option Addr} {sl_asked_size : Array (Option Value)} {oc_asked_size kV_asked_size dc_asked_size pm_asked_size cd_asked_size ct_asked_size : Value}
    {f_drawing_of : Addr} {od_drawing_of an_drawing_of : Option Addr} {sl_drawing_of : Array (Option Value)} {oc_drawing_of kV_drawing_of dc_drawing_of pm_drawing_of cd_drawing_of ct_drawing_of : Value}
    {f_point_place : Addr} {od_point_place an_point_place : Option Addr} {sl_point_place : Array (Option Value)} {oc_point_place kV_point_place dc_point_place pm_point_place cd_point_place ct_point_place : Value}
    {f_line_place : Addr} {od_line_place an_line_place : Option Addr} {sl_line_place : Array (Option Value)} {oc_line_place kV_line_place dc_line_place pm_line_place cd_line_place ct_line_place : Value}
    {f_mark_place : Addr} {od_mark_place an_mark_place : Option Addr} {sl_mark_place : Array (Option Value)} {oc_mark_place kV_mark_place dc_mark_place pm_mark_place cd_mark_place ct_mark_place : Value}
    {f_on_frame : Addr} {od_on_frame an_on_frame : Option Addr} {sl_on_frame : Array (Option Value)} {oc_on_frame kV_on_frame dc_on_frame pm_on_frame cd_on_frame ct_on_frame : Value}
    {f_other_end : Addr} {od_other_end an_other_end : Option Addr} {sl_other_end : Array (Option Value)} {oc_other_end kV_other_end dc_other_end pm_other_end cd_other_end ct_other_end : Value}
    {f_turn : Addr} {od_turn an_turn : Option Addr} {sl_turn : Array (Option Value)} {oc_turn kV_turn dc_turn pm_turn cd_turn ct_turn : Value}
    {f_onward : Addr} {od_onward an_onward : Option Addr} {sl_onward : Array (Option Value)} {oc_onward kV_onward dc_onward pm_onward cd_onward ct_onward : Value}
    {f_between : Addr} {od_between an_between : Option Addr} {sl_between : Array (Option Value)} {oc_between kV_between dc_between pm_between cd_between ct_between : Value}
    {f_lies_on : Addr} {od_lies_on an_lies_on : Option Addr} {sl_lies_on : Array (Option Value)} {oc_lies_on kV_lies_on dc_lies_on pm_lies_on cd_lies_on ct_lies_on : Value}
    {f_apart : Addr} {od_apart an_apart : Option Addr} {sl_apart : Array (Option Value)} {oc_apart kV_apart dc_apart pm_apart cd_apart ct_apart : Value}
    {f_cross : Addr} {od_cross an_cross : Option Addr} {sl_cross : Array (Option Value)} {oc_cross kV_cross dc_cross pm_cross cd_cross ct_cross : Value}
    {f_comes_behind : Addr} {od_comes_behind an_comes_behind : Option Addr} {sl_comes_behind : Array (Option Value)} {oc_comes_behind kV_comes_behind dc_comes_behind pm_comes_behind cd_comes_behind ct_comes_behind : Value}
    {f_is_lead : Addr} {od_is_lead an_is_lead : Option Addr} {sl_is_lead : Array (Option Value)} {oc_is_lead kV_is_lead dc_is_lead pm_is_lead cd_is_lead ct_is_lead : Value}
    {f_leads_of : Addr} {od_leads_of an_leads_of : Option Addr} {sl_leads_of : Array (Option Value)} {oc_leads_of kV_leads_of dc_leads_of pm_leads_of cd_leads_of ct_leads_of : Value}
    {f_leads_by_point : Addr} {od_leads_by_point an_leads_by_point : Option Addr} {sl_leads_by_point : Array (Option Value)} {oc_leads_by_point kV_leads_by_point dc_leads_by_point pm_leads_by_point cd_leads_by_point ct_leads_by_point : Value}
    {f_pairs_through : Addr} {od_pairs_through an_pairs_through : Option Addr} {sl_pairs_through : Array (Option Value)} {oc_pairs_through kV_pairs_through dc_pairs_through pm_pairs_through cd_pairs_through ct_pairs_through : Value}
    {f_joins_of : Addr} {od_joins_of an_joins_of : Option Addr} {sl_joins_of : Array (Option Value)} {oc_joins_of kV_joins_of dc_joins_of pm_joins_of cd_joins_of ct_joins_of : Value}
    {f_root_above : Addr} {od_root_above an_root_above : Option Addr} {sl_root_above : Array (Option Value)} {oc_root_above kV_root_above dc_root_above pm_root_above cd_root_above ct_root_above : Value}
    {f_distance_above : Addr} {od_distance_above an_distance_above : Option Addr} {sl_distance_above : Array (Option Value)} {oc_distance_above kV_distance_above dc_distance_above pm_distance_above cd_distance_above ct_distance_above : Value}
    {f_lengths_of : Addr} {od_lengths_of an_lengths_of : Option Addr} {sl_lengths_of : Array (Option Value)} {oc_lengths_of kV_lengths_of dc_lengths_of pm_lengths_of cd_lengths_of ct_lengths_of : Value}
    {f_walked : Addr} {od_walked an_walked : Option Addr} {sl_walked : Array (Option Value)} {oc_walked kV_walked dc_walked pm_walked cd_walked ct_walked : Value}
    {f_strip_of_least : Addr} {od_strip_of_least an_strip_of_least : Option Addr} {sl_strip_of_least : Array (Option Value)} {oc_strip_of_least kV_strip_of_least dc_strip_of_least pm_strip_of_least cd_strip_of_least ct_strip_of_least : Value}
    {f_strips_of : Addr} {od_strips_of an_strips_of : Option Addr} {sl_strips_of : Array (Option Value)} {oc_strips_of kV_strips_of dc_strips_of pm_strips_of cd_strips_of ct_strips_of : Value}
    {f_lead_too_long : Addr} {od_lead_too_long an_lead_too_long : Option Addr} {sl_lead_too_long : Array (Option Value)} {oc_lead_too_long kV_lead_too_long dc_lead_too_long pm_lead_too_long cd_lead_too_long ct_lead_too_long : Value}
    {f_parted : Addr} {od_parted an_parted : Option Addr} {sl_parted : Array (Option Value)} {oc_parted kV_parted dc_parted pm_parted cd_parted ct_parted : Value}
    {f_pieces_of : Addr} {od_pieces_of an_pieces_of : Option Addr} {sl_pieces_of : Array (Option Value)} {oc_pieces_of kV_pieces_of dc_pieces_of pm_pieces_of cd_pieces_of ct_pieces_of : Value}
    {f_neighbours_of : Addr} {od_neighbours_of an_neighbours_of : Option Addr} {sl_neighbours_of : Array (Option Value)} {oc_neighbours_of kV_neighbours_of dc_neighbours_of pm_neighbours_of cd_neighbours_of ct_neighbours_of : Value}
    {f_reached : Addr} {od_reached an_reached : Option Addr} {sl_reached : Array (Option Value)} {oc_reached kV_reached dc_reached pm_reached cd_reached ct_reached : Value}
    {f_parts_others : Addr} {od_parts_others an_parts_others : Option Addr} {sl_parts_others : Array (Option Value)} {oc_parts_others kV_parts_others dc_parts_others pm_parts_others cd_parts_others ct_parts_others : Value}
    {f_more_left : Addr} {od_more_left an_more_left : Option Addr} {sl_more_left : Array (Option Value)} {oc_more_left kV_more_left dc_more_left pm_more_left cd_more_left ct_more_left : Value}
    {f_leftmost : Addr} {od_leftmost an_leftmost : Option Addr} {sl_leftmost : Array (Option Value)} {oc_leftmost kV_leftmost dc_leftmost pm_leftmost cd_leftmost ct_leftmost : Value}
    {f_outline_from : Addr} {od_outline_from an_outline_from : Option Addr} {sl_outline_from : Array (Option Value)} {oc_outline_from kV_outline_from dc_outline_from pm_outline_from cd_outline_from ct_outline_from : Value}
    {f_twice_area : Addr} {od_twice_area an_twice_area : Option Addr} {sl_twice_area : Array (Option Value)} {oc_twice_area kV_twice_area dc_twice_area pm_twice_area cd_twice_area ct_twice_area : Value}
    {f_panes_of : Addr} {od_panes_of an_panes_of : Option Addr} {sl_panes_of : Array (Option Value)} {oc_panes_of kV_panes_of dc_panes_of pm_panes_of cd_panes_of ct_panes_of : Value}
    {f_surrounds : Addr} {od_surrounds an_surrounds : Option Addr} {sl_surrounds : Array (Option Value)} {oc_surrounds kV_surrounds dc_surrounds pm_surrounds cd_surrounds ct_surrounds : Value}
    {f_pane_at : Addr} {od_pane_at an_pane_at : Option Addr} {sl_pane_at : Array (Option Value)} {oc_pane_at kV_pane_at dc_pane_at pm_pane_at cd_pane_at ct_pane_at : Value}
    {f_sign_fault : Addr} {od_sign_fault an_sign_fault : Option Addr} {sl_sign_fault : Array (Option Value)} {oc_sign_fault kV_sign_fault dc_sign_fault pm_sign_fault cd_sign_fault ct_sign_fault : Value}
    {f_head_fault : Addr} {od_head_fault an_head_fault : Option Addr} {sl_head_fault : Array (Option Value)} {oc_head_fault kV_head_fault dc_head_fault pm_head_fault cd_head_fault ct_head_fault : Value}
    {f_size_fault : Addr} {od_size_fault an_size_fault : Option Addr} {sl_size_fault : Array (Option Value)} {oc_size_fault kV_size_fault dc_size_fault pm_size_fault cd_size_fault ct_size_fault : Value}
    {f_point_fault : Addr} {od_point_fault an_point_fault : Option Addr} {sl_point_fault : Array (Option Value)} {oc_point_fault kV_point_fault dc_point_fault pm_point_fault cd_point_fault ct_point_fault : Value}
    {f_line_fault : Addr} {od_line_fault an_line_fault : Option Addr} {sl_line_fault : Array (Option Value)} {oc_line_fault kV_line_fault dc_line_fault pm_line_fault cd_line_fault ct_line_fault : Value}
    {f_edge_rows : Addr} {od_edge_rows an_edge_rows : Option Addr} {sl_edge_rows : Array (Option Value)} {oc_edge_rows kV_edge_rows dc_edge_rows pm_edge_rows cd_edge_rows ct_edge_rows : Value}
    {f_frame_fault : Addr} {od_frame_fault an_frame_fault : Option Addr} {sl_frame_fault : Array (Option Value)} {oc_frame_fault kV_frame_fault dc_frame_fault pm_frame_fault cd_frame_fault ct_frame_fault : Value}
    {f_has_point_on_it : Addr} {od_has_point_on_it an_has_point_on_it : Option Addr} {sl_has_point_on_it : Array (Option Value)} {oc_has_point_on_it kV_has_point_on_it dc_has_point_on_it pm_has_point_on_it cd_has_point_on_it ct_has_point_on_it : Value}
    {f_crosses_one_of : Addr} {od_crosses_one_of an_crosses_one_of : Option Addr} {sl_crosses_one_of : Array (Option Value)} {oc_crosses_one_of kV_crosses_one_of dc_crosses_one_of pm_crosses_one_of cd_crosses_one_of ct_crosses_one_of : Value}
    {f_crossing_fault : Addr} {od_crossing_fault an_crossing_fault : Option Addr} {sl_crossing_fault : Array (Option Value)} {oc_crossing_fault kV_crossing_fault dc_crossing_fault pm_crossing_fault cd_crossing_fault ct_crossing_fault : Value}
    {f_loose_end_fault : Addr} {od_loose_end_fault an_loose_end_fault : Option Addr} {sl_loose_end_fault : Array (Option Value)} {oc_loose_end_fault kV_loose_end_fault dc_loose_end_fault pm_loose_end_fault cd_loose_end_fault ct_loose_end_fault : Value}
    {f_island_fault : Addr} {od_island_fault an_island_fault : Option Addr} {sl_island_fault : Array (Option Value)} {oc_island_fault kV_island_fault dc_island_fault pm_island_fault cd_island_fault ct_island_fault : Value}
    {f_hinge_fault : Addr} {od_hinge_fault an_hinge_fault : Option Addr} {sl_hinge_fault : Array (Option Value)} {oc_hinge_fault kV_hinge_fault dc_hinge_fault pm_hinge_fault cd_hinge_fault ct_hinge_fault : Value}
    {f_on_some_line : Addr} {od_on_some_line an_on_some_line : Option Addr} {sl_on_some_line : Array (Option Value)} {oc_on_some_line kV_on_some_line dc_on_some_line pm_on_some_line cd_on_some_line ct_on_some_line : Value}
    {f_mark_fault : Addr} {od_mark_fault an_mark_fault : Option Addr} {sl_mark_fault : Array (Option Value)} {oc_mark_fault kV_mark_fault dc_mark_fault pm_mark_fault cd_mark_fault ct_mark_fault : Value}
    {f_second_mark_fault : Addr} {od_second_mark_fault an_second_mark_fault : Option Addr} {sl_second_mark_fault : Array (Option Value)} {oc_second_mark_fault kV_second_mark_fault dc_second_mark_fault pm_second_mark_fault cd_second_mark_fault ct_second_mark_fault : Value}
    {f_bare_pane_fault : Addr} {od_bare_pane_fault an_bare_pane_fault : Option Addr} {sl_bare_pane_fault : Array (Option Value)} {oc_bare_pane_fault kV_bare_pane_fault dc_bare_pane_fault pm_bare_pane_fault cd_bare_pane_fault ct_bare_pane_fault : Value}
    {f_first_fault : Addr} {od_first_fault an_first_fault : Option Addr} {sl_first_fault : Array (Option Value)} {oc_first_fault kV_first_fault dc_first_fault pm_first_fault cd_first_fault ct_first_fault : Value}
    {f_is_shop : Addr} {od_is_shop an_is_shop : Option Addr} {sl_is_shop : Array (Option Value)} {oc_is_shop kV_is_shop dc_is_shop pm_is_shop cd_is_shop ct_is_shop : Value}
    {f_refusal_of : Addr} {od_refusal_of an_refusal_of : Option Addr} {sl_refusal_of : Array (Option Value)} {oc_refusal_of kV_refusal_of dc_refusal_of pm_refusal_of cd_refusal_of ct_refusal_of : Value}
    {f_refusal_of_parting : Addr} {od_refusal_of_parting an_refusal_of_parting : Option Addr} {sl_refusal_of_parting : Array (Option Value)} {oc_refusal_of_parting kV_refusal_of_parting dc_refusal_of_parting pm_refusal_of_parting cd_refusal_of_parting ct_refusal_of_parting : Value}
    {f_pieces : Addr} {od_pieces an_pieces : Option Addr} {sl_pieces : Array (Option Value)} {oc_pieces kV_pieces dc_pieces pm_pieces cd_pieces ct_pieces : Value}
    {C f_Drawing : Addr} {od_Drawing an_Drawing : Option Addr} {sl_Drawing : Array (Option Value)} {oc_Drawing kV_Drawing dc_Drawing pm_Drawing cd_Drawing ct_Drawing : Value}
    {C2 f_Strip : Addr} {od_Strip an_Strip : Option Addr} {sl_Strip : Array (Option Value)} {oc_Strip kV_Strip dc_Strip pm_Strip cd_Strip ct_Strip : Value}
    {C3 f_Piece : Addr} {od_Piece an_Piece : Option Addr} {sl_Piece : Array (Option Value)} {oc_Piece kV_Piece dc_Piece pm_Piece cd_Piece ct_Piece : Value}
    {q_SG_0 : _}
    {q_SG_1 : _}
    {q_SG_2 : _}
    {q_SG_3 : _}
    {aS : Addr} {od_SG : Option Addr} {sl_SG : Array (Option Value)} {m_SG : Nat}
    {aH : Addr} {od_HB : Option Addr} {sl_HB : Array (Option Value)} {m_HB : Nat}
    {q_HB0_0 : _}
    {q_HB0_1 : _}
    {q_HB0_2 : _}
    {q_HB0_3 : _}
    {aH0 : Addr} {od_HB0 : Option Addr} {sl_HB0 : Array (Option Value)} {m_HB0 : Nat}
    {q_HB1_0 : _}
    {q_HB1_1 : _}
    {q_HB1_2 : _}
    {q_HB1_3 : _}
    {aH1 : Addr} {od_HB1 : Option Addr} {sl_HB1 : Array (Option Value)} {m_HB1 : Nat}
    {q_HB2_0 : _}
    {q_HB2_1 : _}
    {q_HB2_2 : _}
    {q_HB2_3 : _}
    {aH2 : Addr} {od_HB2 : Option Addr} {sl_HB2 : Array (Option Value)} {m_HB2 : Nat}
    {q_HB3_0 : _}
    {q_HB3_1 : _}
    {q_HB3_2 : _}
    {q_HB3_3 : _}
    {aH3 : Addr} {od_HB3 : Option Addr} {sl_HB3 : Array (Option Value)} {m_HB3 : Nat}
    {q_HB4_0 : _}
    {q_HB4_1 : _}
    {q_HB4_2 : _}
    {q_HB4_3 : _}
    {aH4 : Addr} {od_HB4 : Option Addr} {sl_HB4 : Array (Option Value)} {m_HB4 : Nat}
    {q_HB5_0 : _}
    {q_HB5_1 : _}
    {q_HB5_2 : _}
    {q_HB5_3 : _}
    {aH5 : Addr} {od_HB5 : Option Addr} {sl_HB5 : Array (Option Value)} {m_HB5 : Nat}
    {aB : Addr} {od_RB : Option Addr} {sl_RB : Array (Option Value)} {m_RB : Nat}
    {aD : Addr} {od_RD : Option Addr} {sl_RD : Array (Option Value)} {m_RD : Nat} (X : K.In h) (G : h.Ns mainGlobals mg) (hfa : mg "pieces" = some (.ref fa))
    (kp_HEAD_SIZE : PySem.W.nsIn K mainGlobals "HEAD_SIZE" = some (some (.int 20 t_HEAD_SIZE)))
    (kp_POINT_SIZE : PySem.W.nsIn K mainGlobals "POINT_SIZE" = some (some (.int 8 t_POINT_SIZE)))
    (kp_LINE_SIZE : PySem.W.nsIn K mainGlobals "LINE_SIZE" = some (some (.int 4 t_LINE_SIZE)))
    (kp_MARK_SIZE : PySem.W.nsIn K mainGlobals "MARK_SIZE" = some (some (.int 12 t_MARK_SIZE)))
    (kp_BEND_BITS : PySem.W.nsIn K mainGlobals "BEND_BITS" = some (some (.int 82 t_BEND_BITS)))
    (kp_MOST_BYTES : PySem.W.nsIn K mainGlobals "MOST_BYTES" = some (some (.int 131072 t_MOST_BYTES)))
    (z_len : PySem.W.nsIn K mainGlobals "len" = some none)
    (z_abs : PySem.W.nsIn K mainGlobals "abs" = some none)
    (z_range : PySem.W.nsIn K mainGlobals "range" = some none)
    (z_reversed : PySem.W.nsIn K mainGlobals "reversed" = some none)
    (z_enumerate : PySem.W.nsIn K mainGlobals "enumerate" = some none)
    (z_zip : PySem.W.nsIn K mainGlobals "zip" = some none)
    (z_sorted : PySem.W.nsIn K mainGlobals "sorted" = some none)
    (z_tuple : PySem.W.nsIn K mainGlobals "tuple" = some none)
    (a_number_at : PySem.W.nsIn K mainGlobals "number_at" = some (some (.ref f_number_at)))
    (l_number_at : K.lookup f_number_at = some ⟨oc_number_at, od_number_at, .func (PySem.W.fnOf "number_at" "number_at" (defArgs s_number_at) (defBody s_number_at) (defScope s_number_at) .none kV_number_at dc_number_at pm_number_at an_number_at cd_number_at ct_number_at), sl_number_at⟩)
    (c_number_at : PySem.W.codeIn K cd_number_at "number_at" = true)
    (kp_number_at : PySem.W.keepIn K (.ref f_number_at) = true)
    (a_pair_at : PySem.W.nsIn K mainGlobals "pair_at" = some (some (.ref f_pair_at)))
    (l_pair_at : K.lookup f_pair_at = some ⟨oc_pair_at, od_pair_at, .func (PySem.W.fnOf "pair_at" "pair_at" (defArgs s_pair_at) (defBody s_pair_at) (defScope s_pair_at) .none kV_pair_at dc_pair_at pm_pair_at an_pair_at cd_pair_at ct_pair_at), sl_pair_at⟩)
    (c_pair_at : PySem.W.codeIn K cd_pair_at "pair_at" = true)
    (kp_pair_at : PySem.W.keepIn K (.ref f_pair_at) = true)
    (a_lines_begin : PySem.W.nsIn K mainGlobals "lines_begin" = some (some (.ref f_lines_begin)))
    (l_lines_begin : K.lookup f_lines_begin = some ⟨oc_lines_begin, od_lines_begin, .func (PySem.W.fnOf "lines_begin" "lines_begin" (defArgs s_lines_begin) (defBody s_lines_begin) (defScope s_lines_begin) .none kV_lines_begin dc_lines_begin pm_lines_begin an_lines_begin cd_lines_begin ct_lines_begin), sl_lines_begin⟩)
    (c_lines_begin : PySem.W.codeIn K cd_lines_begin "lines_begin" = true)
    (kp_lines_begin : PySem.W.keepIn K (.ref f_lines_begin) = true)
    (a_marks_begin : PySem.W.nsIn K mainGlobals "marks_begin" = some (some (.ref f_marks_begin)))
    (l_marks_begin : K.lookup f_marks_begin = some ⟨oc_marks_begin, od_marks_begin, .func (PySem.W.fnOf "marks_begin" "marks_begin" (defArgs s_marks_begin) (defBody s_marks_begin) (defScope s_marks_begin) .none kV_marks_begin dc_marks_begin pm_marks_begin an_marks_begin cd_marks_begin ct_marks_begin), sl_marks_begin⟩)
    (c_marks_begin : PySem.W.codeIn K cd_marks_begin "marks_begin" = true)
    (kp_marks_begin : PySem.W.keepIn K (.ref f_marks_begin) = true)
    (a_asked_size : PySem.W.nsIn K mainGlobals "asked_size" = some (some (.ref f_asked_size)))
    (l_asked_size : K.lookup f_asked_size = some ⟨oc_asked_size, od_asked_size, .func (PySem.W.fnOf "asked_size" "asked_size" (defArgs s_asked_size) (defBody s_asked_size) (defScope s_asked_size) .none kV_asked_size dc_asked_size pm_asked_size an_asked_size cd_asked_size ct_asked_size), sl_asked_size⟩)
    (c_asked_size : PySem.W.codeIn K cd_asked_size "asked_size" = true)
    (kp_asked_size : PySem.W.keepIn K (.ref f_asked_size) = true)
    (a_drawing_of : PySem.W.nsIn K mainGlobals "drawing_of" = some (some (.ref f_drawing_of)))
    (l_drawing_of : K.lookup f_drawing_of = some ⟨oc_drawing_of, od_drawing_of, .func (PySem.W.fnOf "drawing_of" "drawing_of" (defArgs s_drawing_of) (defBody s_drawing_of) (defScope s_drawing_of) .none kV_drawing_of dc_drawing_of pm_drawing_of an_drawing_of cd_drawing_of ct_drawing_of), sl_drawing_of⟩)
    (c_drawing_of : PySem.W.codeIn K cd_drawing_of "drawing_of" = true)
    (kp_drawing_of : PySem.W.keepIn K (.ref f_drawing_of) = true)
    (a_point_place : PySem.W.nsIn K mainGlobals "point_place" = some (some (.ref f_point_place)))
    (l_point_place : K.lookup f_point_place = some ⟨oc_point_place, od_point_place, .func (PySem.W.fnOf "point_place" "point_place" (defArgs s_point_place) (defBody s_point_place) (defScope s_point_place) .none kV_point_place dc_point_place pm_point_place an_point_place cd_point_place ct_point_place), sl_point_place⟩)
    (c_point_place : PySem.W.codeIn K cd_point_place "point_place" = true)
    (kp_point_place : PySem.W.keepIn K (.ref f_point_place) = true)
    (a_line_place : PySem.W.nsIn K mainGlobals "line_place" = some (some (.ref f_line_place)))
    (l_line_place : K.lookup f_line_place = some ⟨oc_line_place, od_line_place, .func (PySem.W.fnOf "line_place" "line_place" (defArgs s_line_place) (defBody s_line_place) (defScope s_line_place) .none kV_line_place dc_line_place pm_line_place an_line_place cd_line_place ct_line_place), sl_line_place⟩)
    (c_line_place : PySem.W.codeIn K cd_line_place "line_place" = true)
    (kp_line_place : PySem.W.keepIn K (.ref f_line_place) = true)
    (a_mark_place : PySem.W.nsIn K mainGlobals "mark_place" = some (some (.ref f_mark_place)))
    (l_mark_place : K.lookup f_mark_place = some ⟨oc_mark_place, od_mark_place, .func (PySem.W.fnOf "mark_place" "mark_place" (defArgs s_mark_place) (defBody s_mark_place) (defScope s_mark_place) .none kV_mark_place dc_mark_place pm_mark_place an_mark_place cd_mark_place ct_mark_place), sl_mark_place⟩)
    (c_mark_place : PySem.W.codeIn K cd_mark_place "mark_place" = true)
    (kp_mark_place : PySem.W.keepIn K (.ref f_mark_place) = true)
    (a_on_frame : PySem.W.nsIn K mainGlobals "on_frame" = some (some (.ref f_on_frame)))
    (l_on_frame : K.lookup f_on_frame = some ⟨oc_on_frame, od_on_frame, .func (PySem.W.fnOf "on_frame" "on_frame" (defArgs s_on_frame) (defBody s_on_frame) (defScope s_on_frame) .none kV_on_frame dc_on_frame pm_on_frame an_on_frame cd_on_frame ct_on_frame), sl_on_frame⟩)
    (c_on_frame : PySem.W.codeIn K cd_on_frame "on_frame" = true)
    (kp_on_frame : PySem.W.keepIn K (.ref f_on_frame) = true)
    (a_other_end : PySem.W.nsIn K mainGlobals "other_end" = some (some (.ref f_other_end)))
    (l_other_end : K.lookup f_other_end = some ⟨oc_other_end, od_other_end, .func (PySem.W.fnOf "other_end" "other_end" (defArgs s_other_end) (defBody s_other_end) (defScope s_other_end) .none kV_other_end dc_other_end pm_other_end an_other_end cd_other_end ct_other_end), sl_other_end⟩)
    (c_other_end : PySem.W.codeIn K cd_other_end "other_end" = true)
    (kp_other_end : PySem.W.keepIn K (.ref f_other_end) = true)
    (a_turn : PySem.W.nsIn K mainGlobals "turn" = some (some (.ref f_turn)))
    (l_turn : K.lookup f_turn = some ⟨oc_turn, od_turn, .func (PySem.W.fnOf "turn" "turn" (defArgs s_turn) (defBody s_turn) (defScope s_turn) .none kV_turn dc_turn pm_turn an_turn cd_turn ct_turn), sl_turn⟩)
    (c_turn : PySem.W.codeIn K cd_turn "turn" = true)
    (kp_turn : PySem.W.keepIn K (.ref f_turn) = true)
    (a_onward : PySem.W.nsIn K mainGlobals "onward" = some (some (.ref f_onward)))
    (l_onward : K.lookup f_onward = some ⟨oc_onward, od_onward, .func (PySem.W.fnOf "onward" "onward" (defArgs s_onward) (defBody s_onward) (defScope s_onward) .none kV_onward dc_onward pm_onward an_onward cd_onward ct_onward), sl_onward⟩)
    (c_onward : PySem.W.codeIn K cd_onward "onward" = true)
    (kp_onward : PySem.W.keepIn K (.ref f_onward) = true)
    (a_between : PySem.W.nsIn K mainGlobals "between" = some (some (.ref f_between)))
    (l_between : K.lookup f_between = some ⟨oc_between, od_between, .func (PySem.W.fnOf "between" "between" (defArgs s_between) (defBody s_between) (defScope s_between) .none kV_between dc_between pm_between an_between cd_between ct_between), sl_between⟩)
    (c_between : PySem.W.codeIn K cd_between "between" = true)
    (kp_between : PySem.W.keepIn K (.ref f_between) = true)
    (a_lies_on : PySem.W.nsIn K mainGlobals "lies_on" = some (some (.ref f_lies_on)))
    (l_lies_on : K.lookup f_lies_on = some ⟨oc_lies_on, od_lies_on, .func (PySem.W.fnOf "lies_on" "lies_on" (defArgs s_lies_on) (defBody s_lies_on) (defScope s_lies_on) .none kV_lies_on dc_lies_on pm_lies_on an_lies_on cd_lies_on ct_lies_on), sl_lies_on⟩)
    (c_lies_on : PySem.W.codeIn K cd_lies_on "lies_on" = true)
    (kp_lies_on : PySem.W.keepIn K (.ref f_lies_on) = true)
    (a_apart : PySem.W.nsIn K mainGlobals "apart" = some (some (.ref f_apart)))
    (l_apart : K.lookup f_apart = some ⟨oc_apart, od_apart, .func (PySem.W.fnOf "apart" "apart" (defArgs s_apart) (defBody s_apart) (defScope s_apart) .none kV_apart dc_apart pm_apart an_apart cd_apart ct_apart), sl_apart⟩)
    (c_apart : PySem.W.codeIn K cd_apart "apart" = true)
    (kp_apart : PySem.W.keepIn K (.ref f_apart) = true)
    (a_cross : PySem.W.nsIn K mainGlobals "cross" = some (some (.ref f_cross)))
    (l_cross : K.lookup f_cross = some ⟨oc_cross, od_cross, .func (PySem.W.fnOf "cross" "cross" (defArgs s_cross) (defBody s_cross) (defScope s_cross) .none kV_cross dc_cross pm_cross an_cross cd_cross ct_cross), sl_cross⟩)
    (c_cross : PySem.W.codeIn K cd_cross "cross" = true)
    (kp_cross : PySem.W.keepIn K (.ref f_cross) = true)
    (a_comes_behind : PySem.W.nsIn K mainGlobals "comes_behind" = some (some (.ref f_comes_behind)))
    (l_comes_behind : K.lookup f_comes_behind = some ⟨oc_comes_behind, od_comes_behind, .func (PySem.W.fnOf "comes_behind" "comes_behind" (defArgs s_comes_behind) (defBody s_comes_behind) (defScope s_comes_behind) .none kV_comes_behind dc_comes_behind pm_comes_behind an_comes_behind cd_comes_behind ct_comes_behind), sl_comes_behind⟩)
    (c_comes_behind : PySem.W.codeIn K cd_comes_behind "comes_behind" = true)
    (kp_comes_behind : PySem.W.keepIn K (.ref f_comes_behind) = true)
    (a_is_lead : PySem.W.nsIn K mainGlobals "is_lead" = some (some (.ref f_is_lead)))
    (l_is_lead : K.lookup f_is_lead = some ⟨oc_is_lead, od_is_lead, .func (PySem.W.fnOf "is_lead" "is_lead" (defArgs s_is_lead) (defBody s_is_lead) (defScope s_is_lead) .none kV_is_lead dc_is_lead pm_is_lead an_is_lead cd_is_lead ct_is_lead), sl_is_lead⟩)
    (c_is_lead : PySem.W.codeIn K cd_is_lead "is_lead" = true)
    (kp_is_lead : PySem.W.keepIn K (.ref f_is_lead) = true)
    (a_leads_of : PySem.W.nsIn K mainGlobals "leads_of" = some (some (.ref f_leads_of)))
    (l_leads_of : K.lookup f_leads_of = some ⟨oc_leads_of, od_leads_of, .func (PySem.W.fnOf "leads_of" "leads_of" (defArgs s_leads_of) (defBody s_leads_of) (defScope s_leads_of) .none kV_leads_of dc_leads_of pm_leads_of an_leads_of cd_leads_of ct_leads_of), sl_leads_of⟩)
    (c_leads_of : PySem.W.codeIn K cd_leads_of "leads_of" = true)
    (kp_leads_of : PySem.W.keepIn K (.ref f_leads_of) = true)
    (a_leads_by_point : PySem.W.nsIn K mainGlobals "leads_by_point" = some (some (.ref f_leads_by_point)))
    (l_leads_by_point : K.lookup f_leads_by_point = some ⟨oc_leads_by_point, od_leads_by_point, .func (PySem.W.fnOf "leads_by_point" "leads_by_point" (defArgs s_leads_by_point) (defBody s_leads_by_point) (defScope s_leads_by_point) .none kV_leads_by_point dc_leads_by_point pm_leads_by_point an_leads_by_point cd_leads_by_point ct_leads_by_point), sl_leads_by_point⟩)
    (c_leads_by_point : PySem.W.codeIn K cd_leads_by_point "leads_by_point" = true)
    (kp_leads_by_point : PySem.W.keepIn K (.ref f_leads_by_point) = true)
    (a_pairs_through : PySem.W.nsIn K mainGlobals "pairs_through" = some (some (.ref f_pairs_through)))
    (l_pairs_through : K.lookup f_pairs_through = some ⟨oc_pairs_through, od_pairs_through, .func (PySem.W.fnOf "pairs_through" "pairs_through" (defArgs s_pairs_through) (defBody s_pairs_through) (defScope s_pairs_through) .none kV_pairs_through dc_pairs_through pm_pairs_through an_pairs_through cd_pairs_through ct_pairs_through), sl_pairs_through⟩)
    (c_pairs_through : PySem.W.codeIn K cd_pairs_through "pairs_through" = true)
    (kp_pairs_through : PySem.W.keepIn K (.ref f_pairs_through) = true)
    (a_joins_of : PySem.W.nsIn K mainGlobals "joins_of" = some (some (.ref f_joins_of)))
    (l_joins_of : K.lookup f_joins_of = some ⟨oc_joins_of, od_joins_of, .func (PySem.W.fnOf "joins_of" "joins_of" (defArgs s_joins_of) (defBody s_joins_of) (defScope s_joins_of) .none kV_joins_of dc_joins_of pm_joins_of an_joins_of cd_joins_of ct_joins_of), sl_joins_of⟩)
    (c_joins_of : PySem.W.codeIn K cd_joins_of "joins_of" = true)
    (kp_joins_of : PySem.W.keepIn K (.ref f_joins_of) = true)
    (a_root_above : PySem.W.nsIn K mainGlobals "root_above" = some (some (.ref f_root_above)))
    (l_root_above : K.lookup f_root_above = some ⟨oc_root_above, od_root_above, .func (PySem.W.fnOf "root_above" "root_above" (defArgs s_root_above) (defBody s_root_above) (defScope s_root_above) .none kV_root_above dc_root_above pm_root_above an_root_above cd_root_above ct_root_above), sl_root_above⟩)
    (c_root_above : PySem.W.codeIn K cd_root_above "root_above" = true)
    (kp_root_above : PySem.W.keepIn K (.ref f_root_above) = true)
    (a_distance_above : PySem.W.nsIn K mainGlobals "distance_above" = some (some (.ref f_distance_above)))
    (l_distance_above : K.lookup f_distance_above = some ⟨oc_distance_above, od_distance_above, .func (PySem.W.fnOf "distance_above" "distance_above" (defArgs s_distance_above) (defBody s_distance_above) (defScope s_distance_above) .none kV_distance_above dc_distance_above pm_distance_above an_distance_above cd_distance_above ct_distance_above), sl_distance_above⟩)
    (c_distance_above : PySem.W.codeIn K cd_distance_above "distance_above" = true)
    (kp_distance_above : PySem.W.keepIn K (.ref f_distance_above) = true)
    (a_lengths_of : PySem.W.nsIn K mainGlobals "lengths_of" = some (some (.ref f_lengths_of)))
    (l_lengths_of : K.lookup f_lengths_of = some ⟨oc_lengths_of, od_lengths_of, .func (PySem.W.fnOf "lengths_of" "lengths_of" (defArgs s_lengths_of) (defBody s_lengths_of) (defScope s_lengths_of) .none kV_lengths_of dc_lengths_of pm_lengths_of an_lengths_of cd_lengths_of ct_lengths_of), sl_lengths_of⟩)
    (c_lengths_of : PySem.W.codeIn K cd_lengths_of "lengths_of" = true)
    (kp_lengths_of : PySem.W.keepIn K (.ref f_lengths_of) = true)
    (a_walked : PySem.W.nsIn K mainGlobals "walked" = some (some (.ref f_walked)))
    (l_walked : K.lookup f_walked = some ⟨oc_walked, od_walked, .func (PySem.W.fnOf "walked" "walked" (defArgs s_walked) (defBody s_walked) (defScope s_walked) .none kV_walked dc_walked pm_walked an_walked cd_walked ct_walked), sl_walked⟩)
    (c_walked : PySem.W.codeIn K cd_walked "walked" = true)
    (kp_walked : PySem.W.keepIn K (.ref f_walked) = true)
    (a_strip_of_least : PySem.W.nsIn K mainGlobals "strip_of_least" = some (some (.ref f_strip_of_least)))
    (l_strip_of_least : K.lookup f_strip_of_least = some ⟨oc_strip_of_least, od_strip_of_least, .func (PySem.W.fnOf "strip_of_least" "strip_of_least" (defArgs s_strip_of_least) (defBody s_strip_of_least) (defScope s_strip_of_least) .none kV_strip_of_least dc_strip_of_least pm_strip_of_least an_strip_of_least cd_strip_of_least ct_strip_of_least), sl_strip_of_least⟩)
    (c_strip_of_least : PySem.W.codeIn K cd_strip_of_least "strip_of_least" = true)
    (kp_strip_of_least : PySem.W.keepIn K (.ref f_strip_of_least) = true)
    (a_strips_of : PySem.W.nsIn K mainGlobals "strips_of" = some (some (.ref f_strips_of)))
    (l_strips_of : K.lookup f_strips_of = some ⟨oc_strips_of, od_strips_of, .func (PySem.W.fnOf "strips_of" "strips_of" (defArgs s_strips_of) (defBody s_strips_of) (defScope s_strips_of) .none kV_strips_of dc_strips_of pm_strips_of an_strips_of cd_strips_of ct_strips_of), sl_strips_of⟩)
    (c_strips_of : PySem.W.codeIn K cd_strips_of "strips_of" = true)
    (kp_strips_of : PySem.W.keepIn K (.ref f_strips_of) = true)
    (a_lead_too_long : PySem.W.nsIn K mainGlobals "lead_too_long" = some (some (.ref f_lead_too_long)))
    (l_lead_too_long : K.lookup f_lead_too_long = some ⟨oc_lead_too_long, od_lead_too_long, .func (PySem.W.fnOf "lead_too_long" "lead_too_long" (defArgs s_lead_too_long) (defBody s_lead_too_long) (defScope s_lead_too_long) .none kV_lead_too_long dc_lead_too_long pm_lead_too_long an_lead_too_long cd_lead_too_long ct_lead_too_long), sl_lead_too_long⟩)
    (c_lead_too_long : PySem.W.codeIn K cd_lead_too_long "lead_too_long" = true)
    (kp_lead_too_long : PySem.W.keepIn K (.ref f_lead_too_long) = true)
    (a_parted : PySem.W.nsIn K mainGlobals "parted" = some (some (.ref f_parted)))
    (l_parted : K.lookup f_parted = some ⟨oc_parted, od_parted, .func (PySem.W.fnOf "parted" "parted" (defArgs s_parted) (defBody s_parted) (defScope s_parted) .none kV_parted dc_parted pm_parted an_parted cd_parted ct_parted), sl_parted⟩)
    (c_parted : PySem.W.codeIn K cd_parted "parted" = true)
    (kp_parted : PySem.W.keepIn K (.ref f_parted) = true)
    (a_pieces_of : PySem.W.nsIn K mainGlobals "pieces_of" = some (some (.ref f_pieces_of)))
    (l_pieces_of : K.lookup f_pieces_of = some ⟨oc_pieces_of, od_pieces_of, .func (PySem.W.fnOf "pieces_of" "pieces_of" (defArgs s_pieces_of) (defBody s_pieces_of) (defScope s_pieces_of) .none kV_pieces_of dc_pieces_of pm_pieces_of an_pieces_of cd_pieces_of ct_pieces_of), sl_pieces_of⟩)
    (c_pieces_of : PySem.W.codeIn K cd_pieces_of "pieces_of" = true)
    (kp_pieces_of : PySem.W.keepIn K (.ref f_pieces_of) = true)
    (a_neighbours_of : PySem.W.nsIn K mainGlobals "neighbours_of" = some (some (.ref f_neighbours_of)))
    (l_neighbours_of : K.lookup f_neighbours_of = some ⟨oc_neighbours_of, od_neighbours_of, .func (PySem.W.fnOf "neighbours_of" "neighbours_of" (defArgs s_neighbours_of) (defBody s_neighbours_of) (defScope s_neighbours_of) .none kV_neighbours_of dc_neighbours_of pm_neighbours_of an_neighbours_of cd_neighbours_of ct_neighbours_of), sl_neighbours_of⟩)
    (c_neighbours_of : PySem.W.codeIn K cd_neighbours_of "neighbours_of" = true)
    (kp_neighbours_of : PySem.W.keepIn K (.ref f_neighbours_of) = true)
    (a_reached : PySem.W.nsIn K mainGlobals "reached" = some (some (.ref f_reached)))
    (l_reached : K.lookup f_reached = some ⟨oc_reached, od_reached, .func (PySem.W.fnOf "reached" "reached" (defArgs s_reached) (defBody s_reached) (defScope s_reached) .none kV_reached dc_reached pm_reached an_reached cd_reached ct_reached), sl_reached⟩)
    (c_reached : PySem.W.codeIn K cd_reached "reached" = true)
    (kp_reached : PySem.W.keepIn K (.ref f_reached) = true)
    (a_parts_others : PySem.W.nsIn K mainGlobals "parts_others" = some (some (.ref f_parts_others)))
    (l_parts_others : K.lookup f_parts_others = some ⟨oc_parts_others, od_parts_others, .func (PySem.W.fnOf "parts_others" "parts_others" (defArgs s_parts_others) (defBody s_parts_others) (defScope s_parts_others) .none kV_parts_others dc_parts_others pm_parts_others an_parts_others cd_parts_others ct_parts_others), sl_parts_others⟩)
    (c_parts_others : PySem.W.codeIn K cd_parts_others "parts_others" = true)
    (kp_parts_others : PySem.W.keepIn K (.ref f_parts_others) = true)
    (a_more_left : PySem.W.nsIn K mainGlobals "more_left" = some (some (.ref f_more_left)))
    (l_more_left : K.lookup f_more_left = some ⟨oc_more_left, od_more_left, .func (PySem.W.fnOf "more_left" "more_left" (defArgs s_more_left) (defBody s_more_left) (defScope s_more_left) .none kV_more_left dc_more_left pm_more_left an_more_left cd_more_left ct_more_left), sl_more_left⟩)
    (c_more_left : PySem.W.codeIn K cd_more_left "more_left" = true)
    (kp_more_left : PySem.W.keepIn K (.ref f_more_left) = true)
    (a_leftmost : PySem.W.nsIn K mainGlobals "leftmost" = some (some (.ref f_leftmost)))
    (l_leftmost : K.lookup f_leftmost = some ⟨oc_leftmost, od_leftmost, .func (PySem.W.fnOf "leftmost" "leftmost" (defArgs s_leftmost) (defBody s_leftmost) (defScope s_leftmost) .none kV_leftmost dc_leftmost pm_leftmost an_leftmost cd_leftmost ct_leftmost), sl_leftmost⟩)
    (c_leftmost : PySem.W.codeIn K cd_leftmost "leftmost" = true)
    (kp_leftmost : PySem.W.keepIn K (.ref f_leftmost) = true)
    (a_outline_from : PySem.W.nsIn K mainGlobals "outline_from" = some (some (.ref f_outline_from)))
    (l_outline_from : K.lookup f_outline_from = some ⟨oc_outline_from, od_outline_from, .func (PySem.W.fnOf "outline_from" "outline_from" (defArgs s_outline_from) (defBody s_outline_from) (defScope s_outline_from) .none kV_outline_from dc_outline_from pm_outline_from an_outline_from cd_outline_from ct_outline_from), sl_outline_from⟩)
    (c_outline_from : PySem.W.codeIn K cd_outline_from "outline_from" = true)
    (kp_outline_from : PySem.W.keepIn K (.ref f_outline_from) = true)
    (a_twice_area : PySem.W.nsIn K mainGlobals "twice_area" = some (some (.ref f_twice_area)))
    (l_twice_area : K.lookup f_twice_area = some ⟨oc_twice_area, od_twice_area, .func (PySem.W.fnOf "twice_area" "twice_area" (defArgs s_twice_area) (defBody s_twice_area) (defScope s_twice_area) .none kV_twice_area dc_twice_area pm_twice_area an_twice_area cd_twice_area ct_twice_area), sl_twice_area⟩)
    (c_twice_area : PySem.W.codeIn K cd_twice_area "twice_area" = true)
    (kp_twice_area : PySem.W.keepIn K (.ref f_twice_area) = true)
    (a_panes_of : PySem.W.nsIn K mainGlobals "panes_of" = some (some (.ref f_panes_of)))
    (l_panes_of : K.lookup f_panes_of = some ⟨oc_panes_of, od_panes_of, .func (PySem.W.fnOf "panes_of" "panes_of" (defArgs s_panes_of) (defBody s_panes_of) (defScope s_panes_of) .none kV_panes_of dc_panes_of pm_panes_of an_panes_of cd_panes_of ct_panes_of), sl_panes_of⟩)
    (c_panes_of : PySem.W.codeIn K cd_panes_of "panes_of" = true)
    (kp_panes_of : PySem.W.keepIn K (.ref f_panes_of) = true)
    (a_surrounds : PySem.W.nsIn K mainGlobals "surrounds" = some (some (.ref f_surrounds)))
    (l_surrounds : K.lookup f_surrounds = some ⟨oc_surrounds, od_surrounds, .func (PySem.W.fnOf "surrounds" "surrounds" (defArgs s_surrounds) (defBody s_surrounds) (defScope s_surrounds) .none kV_surrounds dc_surrounds pm_surrounds an_surrounds cd_surrounds ct_surrounds), sl_surrounds⟩)
    (c_surrounds : PySem.W.codeIn K cd_surrounds "surrounds" = true)
    (kp_surrounds : PySem.W.keepIn K (.ref f_surrounds) = true)
    (a_pane_at : PySem.W.nsIn K mainGlobals "pane_at" = some (some (.ref f_pane_at)))
    (l_pane_at : K.lookup f_pane_at = some ⟨oc_pane_at, od_pane_at, .func (PySem.W.fnOf "pane_at" "pane_at" (defArgs s_pane_at) (defBody s_pane_at) (defScope s_pane_at) .none kV_pane_at dc_pane_at pm_pane_at an_pane_at cd_pane_at ct_pane_at), sl_pane_at⟩)
    (c_pane_at : PySem.W.codeIn K cd_pane_at "pane_at" = true)
    (kp_pane_at : PySem.W.keepIn K (.ref f_pane_at) = true)
    (a_sign_fault : PySem.W.nsIn K mainGlobals "sign_fault" = some (some (.ref f_sign_fault)))
    (l_sign_fault : K.lookup f_sign_fault = some ⟨oc_sign_fault, od_sign_fault, .func (PySem.W.fnOf "sign_fault" "sign_fault" (defArgs s_sign_fault) (defBody s_sign_fault) (defScope s_sign_fault) .none kV_sign_fault dc_sign_fault pm_sign_fault an_sign_fault cd_sign_fault ct_sign_fault), sl_sign_fault⟩)
    (c_sign_fault : PySem.W.codeIn K cd_sign_fault "sign_fault" = true)
    (kp_sign_fault : PySem.W.keepIn K (.ref f_sign_fault) = true)
    (a_head_fault : PySem.W.nsIn K mainGlobals "head_fault" = some (some (.ref f_head_fault)))
    (l_head_fault : K.lookup f_head_fault = some ⟨oc_head_fault, od_head_fault, .func (PySem.W.fnOf "head_fault" "head_fault" (defArgs s_head_fault) (defBody s_head_fault) (defScope s_head_fault) .none kV_head_fault dc_head_fault pm_head_fault an_head_fault cd_head_fault ct_head_fault), sl_head_fault⟩)
    (c_head_fault : PySem.W.codeIn K cd_head_fault "head_fault" = true)
    (kp_head_fault : PySem.W.keepIn K (.ref f_head_fault) = true)
    (a_size_fault : PySem.W.nsIn K mainGlobals "size_fault" = some (some (.ref f_size_fault)))
    (l_size_fault : K.lookup f_size_fault = some ⟨oc_size_fault, od_size_fault, .func (PySem.W.fnOf "size_fault" "size_fault" (defArgs s_size_fault) (defBody s_size_fault) (defScope s_size_fault) .none kV_size_fault dc_size_fault pm_size_fault an_size_fault cd_size_fault ct_size_fault), sl_size_fault⟩)
    (c_size_fault : PySem.W.codeIn K cd_size_fault "size_fault" = true)
    (kp_size_fault : PySem.W.keepIn K (.ref f_size_fault) = true)
    (a_point_fault : PySem.W.nsIn K mainGlobals "point_fault" = some (some (.ref f_point_fault)))
    (l_point_fault : K.lookup f_point_fault = some ⟨oc_point_fault, od_point_fault, .func (PySem.W.fnOf "point_fault" "point_fault" (defArgs s_point_fault) (defBody s_point_fault) (defScope s_point_fault) .none kV_point_fault dc_point_fault pm_point_fault an_point_fault cd_point_fault ct_point_fault), sl_point_fault⟩)
    (c_point_fault : PySem.W.codeIn K cd_point_fault "point_fault" = true)
    (kp_point_fault : PySem.W.keepIn K (.ref f_point_fault) = true)
    (a_line_fault : PySem.W.nsIn K mainGlobals "line_fault" = some (some (.ref f_line_fault)))
    (l_line_fault : K.lookup f_line_fault = some ⟨oc_line_fault, od_line_fault, .func (PySem.W.fnOf "line_fault" "line_fault" (defArgs s_line_fault) (defBody s_line_fault) (defScope s_line_fault) .none kV_line_fault dc_line_fault pm_line_fault an_line_fault cd_line_fault ct_line_fault), sl_line_fault⟩)
    (c_line_fault : PySem.W.codeIn K cd_line_fault "line_fault" = true)
    (kp_line_fault : PySem.W.keepIn K (.ref f_line_fault) = true)
    (a_edge_rows : PySem.W.nsIn K mainGlobals "edge_rows" = some (some (.ref f_edge_rows)))
    (l_edge_rows : K.lookup f_edge_rows = some ⟨oc_edge_rows, od_edge_rows, .func (PySem.W.fnOf "edge_rows" "edge_rows" (defArgs s_edge_rows) (defBody s_edge_rows) (defScope s_edge_rows) .none kV_edge_rows dc_edge_rows pm_edge_rows an_edge_rows cd_edge_rows ct_edge_rows), sl_edge_rows⟩)
    (c_edge_rows : PySem.W.codeIn K cd_edge_rows "edge_rows" = true)
    (kp_edge_rows : PySem.W.keepIn K (.ref f_edge_rows) = true)
    (a_frame_fault : PySem.W.nsIn K mainGlobals "frame_fault" = some (some (.ref f_frame_fault)))
    (l_frame_fault : K.lookup f_frame_fault = some ⟨oc_frame_fault, od_frame_fault, .func (PySem.W.fnOf "frame_fault" "frame_fault" (defArgs s_frame_fault) (defBody s_frame_fault) (defScope s_frame_fault) .none kV_frame_fault dc_frame_fault pm_frame_fault an_frame_fault cd_frame_fault ct_frame_fault), sl_frame_fault⟩)
    (c_frame_fault : PySem.W.codeIn K cd_frame_fault "frame_fault" = true)
    (kp_frame_fault : PySem.W.keepIn K (.ref f_frame_fault) = true)
    (a_has_point_on_it : PySem.W.nsIn K mainGlobals "has_point_on_it" = some (some (.ref f_has_point_on_it)))
    (l_has_point_on_it : K.lookup f_has_point_on_it = some ⟨oc_has_point_on_it, od_has_point_on_it, .func (PySem.W.fnOf "has_point_on_it" "has_point_on_it" (defArgs s_has_point_on_it) (defBody s_has_point_on_it) (defScope s_has_point_on_it) .none kV_has_point_on_it dc_has_point_on_it pm_has_point_on_it an_has_point_on_it cd_has_point_on_it ct_has_point_on_it), sl_has_point_on_it⟩)
    (c_has_point_on_it : PySem.W.codeIn K cd_has_point_on_it "has_point_on_it" = true)
    (kp_has_point_on_it : PySem.W.keepIn K (.ref f_has_point_on_it) = true)
    (a_crosses_one_of : PySem.W.nsIn K mainGlobals "crosses_one_of" = some (some (.ref f_crosses_one_of)))
    (l_crosses_one_of : K.lookup f_crosses_one_of = some ⟨oc_crosses_one_of, od_crosses_one_of, .func (PySem.W.fnOf "crosses_one_of" "crosses_one_of" (defArgs s_crosses_one_of) (defBody s_crosses_one_of) (defScope s_crosses_one_of) .none kV_crosses_one_of dc_crosses_one_of pm_crosses_one_of an_crosses_one_of cd_crosses_one_of ct_crosses_one_of), sl_crosses_one_of⟩)
    (c_crosses_one_of : PySem.W.codeIn K cd_crosses_one_of "crosses_one_of" = true)
    (kp_crosses_one_of : PySem.W.keepIn K (.ref f_crosses_one_of) = true)
    (a_crossing_fault : PySem.W.nsIn K mainGlobals "crossing_fault" = some (some (.ref f_crossing_fault)))
    (l_crossing_fault : K.lookup f_crossing_fault = some ⟨oc_crossing_fault, od_crossing_fault, .func (PySem.W.fnOf "crossing_fault" "crossing_fault" (defArgs s_crossing_fault) (defBody s_crossing_fault) (defScope s_crossing_fault) .none kV_crossing_fault dc_crossing_fault pm_crossing_fault an_crossing_fault cd_crossing_fault ct_crossing_fault), sl_crossing_fault⟩)
    (c_crossing_fault : PySem.W.codeIn K cd_crossing_fault "crossing_fault" = true)
    (kp_crossing_fault : PySem.W.keepIn K (.ref f_crossing_fault) = true)
    (a_loose_end_fault : PySem.W.nsIn K mainGlobals "loose_end_fault" = some (some (.ref f_loose_end_fault)))
    (l_loose_end_fault : K.lookup f_loose_end_fault = some ⟨oc_loose_end_fault, od_loose_end_fault, .func (PySem.W.fnOf "loose_end_fault" "loose_end_fault" (defArgs s_loose_end_fault) (defBody s_loose_end_fault) (defScope s_loose_end_fault) .none kV_loose_end_fault dc_loose_end_fault pm_loose_end_fault an_loose_end_fault cd_loose_end_fault ct_loose_end_fault), sl_loose_end_fault⟩)
    (c_loose_end_fault : PySem.W.codeIn K cd_loose_end_fault "loose_end_fault" = true)
    (kp_loose_end_fault : PySem.W.keepIn K (.ref f_loose_end_fault) = true)
    (a_island_fault : PySem.W.nsIn K mainGlobals "island_fault" = some (some (.ref f_island_fault)))
    (l_island_fault : K.lookup f_island_fault = some ⟨oc_island_fault, od_island_fault, .func (PySem.W.fnOf "island_fault" "island_fault" (defArgs s_island_fault) (defBody s_island_fault) (defScope s_island_fault) .none kV_island_fault dc_island_fault pm_island_fault an_island_fault cd_island_fault ct_island_fault), sl_island_fault⟩)
    (c_island_fault : PySem.W.codeIn K cd_island_fault "island_fault" = true)
    (kp_island_fault : PySem.W.keepIn K (.ref f_island_fault) = true)
    (a_hinge_fault : PySem.W.nsIn K mainGlobals "hinge_fault" = some (some (.ref f_hinge_fault)))
    (l_hinge_fault : K.lookup f_hinge_fault = some ⟨oc_hinge_fault, od_hinge_fault, .func (PySem.W.fnOf "hinge_fault" "hinge_fault" (defArgs s_hinge_fault) (defBody s_hinge_fault) (defScope s_hinge_fault) .none kV_hinge_fault dc_hinge_fault pm_hinge_fault an_hinge_fault cd_hinge_fault ct_hinge_fault), sl_hinge_fault⟩)
    (c_hinge_fault : PySem.W.codeIn K cd_hinge_fault "hinge_fault" = true)
    (kp_hinge_fault : PySem.W.keepIn K (.ref f_hinge_fault) = true)
    (a_on_some_line : PySem.W.nsIn K mainGlobals "on_some_line" = some (some (.ref f_on_some_line)))
    (l_on_some_line : K.lookup f_on_some_line = some ⟨oc_on_some_line, od_on_some_line, .func (PySem.W.fnOf "on_some_line" "on_some_line" (defArgs s_on_some_line) (defBody s_on_some_line) (defScope s_on_some_line) .none kV_on_some_line dc_on_some_line pm_on_some_line an_on_some_line cd_on_some_line ct_on_some_line), sl_on_some_line⟩)
    (c_on_some_line : PySem.W.codeIn K cd_on_some_line "on_some_line" = true)
    (kp_on_some_line : PySem.W.keepIn K (.ref f_on_some_line) = true)
    (a_mark_fault : PySem.W.nsIn K mainGlobals "mark_fault" = some (some (.ref f_mark_fault)))
    (l_mark_fault : K.lookup f_mark_fault = some ⟨oc_mark_fault, od_mark_fault, .func (PySem.W.fnOf "mark_fault" "mark_fault" (defArgs s_mark_fault) (defBody s_mark_fault) (defScope s_mark_fault) .none kV_mark_fault dc_mark_fault pm_mark_fault an_mark_fault cd_mark_fault ct_mark_fault), sl_mark_fault⟩)
    (c_mark_fault : PySem.W.codeIn K cd_mark_fault "mark_fault" = true)
    (kp_mark_fault : PySem.W.keepIn K (.ref f_mark_fault) = true)
    (a_second_mark_fault : PySem.W.nsIn K mainGlobals "second_mark_fault" = some (some (.ref f_second_mark_fault)))
    (l_second_mark_fault : K.lookup f_second_mark_fault = some ⟨oc_second_mark_fault, od_second_mark_fault, .func (PySem.W.fnOf "second_mark_fault" "second_mark_fault" (defArgs s_second_mark_fault) (defBody s_second_mark_fault) (defScope s_second_mark_fault) .none kV_second_mark_fault dc_second_mark_fault pm_second_mark_fault an_second_mark_fault cd_second_mark_fault ct_second_mark_fault), sl_second_mark_fault⟩)
    (c_second_mark_fault : PySem.W.codeIn K cd_second_mark_fault "second_mark_fault" = true)
    (kp_second_mark_fault : PySem.W.keepIn K (.ref f_second_mark_fault) = true)
    (a_bare_pane_fault : PySem.W.nsIn K mainGlobals "bare_pane_fault" = some (some (.ref f_bare_pane_fault)))
    (l_bare_pane_fault : K.lookup f_bare_pane_fault = some ⟨oc_bare_pane_fault, od_bare_pane_fault, .func (PySem.W.fnOf "bare_pane_fault" "bare_pane_fault" (defArgs s_bare_pane_fault) (defBody s_bare_pane_fault) (defScope s_bare_pane_fault) .none kV_bare_pane_fault dc_bare_pane_fault pm_bare_pane_fault an_bare_pane_fault cd_bare_pane_fault ct_bare_pane_fault), sl_bare_pane_fault⟩)
    (c_bare_pane_fault : PySem.W.codeIn K cd_bare_pane_fault "bare_pane_fault" = true)
    (kp_bare_pane_fault : PySem.W.keepIn K (.ref f_bare_pane_fault) = true)
    (a_first_fault : PySem.W.nsIn K mainGlobals "first_fault" = some (some (.ref f_first_fault)))
    (l_first_fault : K.lookup f_first_fault = some ⟨oc_first_fault, od_first_fault, .func (PySem.W.fnOf "first_fault" "first_fault" (defArgs s_first_fault) (defBody s_first_fault) (defScope s_first_fault) .none kV_first_fault dc_first_fault pm_first_fault an_first_fault cd_first_fault ct_first_fault), sl_first_fault⟩)
    (c_first_fault : PySem.W.codeIn K cd_first_fault "first_fault" = true)
    (kp_first_fault : PySem.W.keepIn K (.ref f_first_fault) = true)
    (a_is_shop : PySem.W.nsIn K mainGlobals "is_shop" = some (some (.ref f_is_shop)))
    (l_is_shop : K.lookup f_is_shop = some ⟨oc_is_shop, od_is_shop, .func (PySem.W.fnOf "is_shop" "is_shop" (defArgs s_is_shop) (defBody s_is_shop) (defScope s_is_shop) .none kV_is_shop dc_is_shop pm_is_shop an_is_shop cd_is_shop ct_is_shop), sl_is_shop⟩)
    (c_is_shop : PySem.W.codeIn K cd_is_shop "is_shop" = true)
    (kp_is_shop : PySem.W.keepIn K (.ref f_is_shop) = true)
    (a_refusal_of : PySem.W.nsIn K mainGlobals "refusal_of" = some (some (.ref f_refusal_of)))
    (l_refusal_of : K.lookup f_refusal_of = some ⟨oc_refusal_of, od_refusal_of, .func (PySem.W.fnOf "refusal_of" "refusal_of" (defArgs s_refusal_of) (defBody s_refusal_of) (defScope s_refusal_of) .none kV_refusal_of dc_refusal_of pm_refusal_of an_refusal_of cd_refusal_of ct_refusal_of), sl_refusal_of⟩)
    (c_refusal_of : PySem.W.codeIn K cd_refusal_of "refusal_of" = true)
    (kp_refusal_of : PySem.W.keepIn K (.ref f_refusal_of) = true)
    (a_refusal_of_parting : PySem.W.nsIn K mainGlobals "refusal_of_parting" = some (some (.ref f_refusal_of_parting)))
    (l_refusal_of_parting : K.lookup f_refusal_of_parting = some ⟨oc_refusal_of_parting, od_refusal_of_parting, .func (PySem.W.fnOf "refusal_of_parting" "refusal_of_parting" (defArgs s_refusal_of_parting) (defBody s_refusal_of_parting) (defScope s_refusal_of_parting) .none kV_refusal_of_parting dc_refusal_of_parting pm_refusal_of_parting an_refusal_of_parting cd_refusal_of_parting ct_refusal_of_parting), sl_refusal_of_parting⟩)
    (c_refusal_of_parting : PySem.W.codeIn K cd_refusal_of_parting "refusal_of_parting" = true)
    (kp_refusal_of_parting : PySem.W.keepIn K (.ref f_refusal_of_parting) = true)
    (a_pieces : PySem.W.nsIn K mainGlobals "pieces" = some (some (.ref f_pieces)))
    (l_pieces : K.lookup f_pieces = some ⟨oc_pieces, od_pieces, .func (PySem.W.fnOf "pieces" "pieces" (defArgs s_pieces) (defBody s_pieces) (defScope s_pieces) .none kV_pieces dc_pieces pm_pieces an_pieces cd_pieces ct_pieces), sl_pieces⟩)
    (c_pieces : PySem.W.codeIn K cd_pieces "pieces" = true)
    (kp_pieces : PySem.W.keepIn K (.ref f_pieces) = true)
    (a_Drawing : PySem.W.nsIn K mainGlobals "Drawing" = some (some (.ref C)))
    (i_Drawing : PySem.W.findIn K (.ref C) "__init__" = some (some (.ref f_Drawing)))
    (y_Drawing : PySem.W.isFn K (.ref f_Drawing) = true)
    (l_Drawing : K.lookup f_Drawing = some ⟨oc_Drawing, od_Drawing, .func (PySem.W.fnOf "__init__" "Drawing.__init__" (defArgs s_DrI) (defBody s_DrI) (defScope s_DrI) .none kV_Drawing dc_Drawing pm_Drawing an_Drawing cd_Drawing ct_Drawing), sl_Drawing⟩)
    (c_Drawing : PySem.W.codeIn K cd_Drawing "Drawing.__init__" = true)
    (kp_Drawing : PySem.W.keepIn K (.ref f_Drawing) = true)
    (pg_Drawing : PySem.W.plainGet K C Str.empty = true)
    (hd_Drawing : PySem.W.hasDictIn K C = true)
    (po_Drawing : PySem.W.plainOver K C = true)
    (sa_Drawing : PySem.W.findIn K (.ref C) "__setattr__" = some (some (.builtin "object.__setattr__")))
    (mk_Drawing : PySem.W.makesIn K C = true)
    (kc_Drawing : PySem.W.keepIn K (.ref C) = true)
    (n_Drawing_width : PySem.W.findIn K (.ref C) "width" = some none)
    (n_Drawing_height : PySem.W.findIn K (.ref C) "height" = some none)
    (n_Drawing_points : PySem.W.findIn K (.ref C) "points" = some none)
    (n_Drawing_lines : PySem.W.findIn K (.ref C) "lines" = some none)
    (n_Drawing_marks : PySem.W.findIn K (.ref C) "marks" = some none)
    (a_Strip : PySem.W.nsIn K mainGlobals "Strip" = some (some (.ref C2)))
    (i_Strip : PySem.W.findIn K (.ref C2) "__init__" = some (some (.ref f_Strip)))
    (y_Strip : PySem.W.isFn K (.ref f_Strip) = true)
    (l_Strip : K.lookup f_Strip = some ⟨oc_Strip, od_Strip, .func (PySem.W.fnOf "__init__" "Strip.__init__" (defArgs s_StI) (defBody s_StI) (defScope s_StI) .none kV_Strip dc_Strip pm_Strip an_Strip cd_Strip ct_Strip), sl_Strip⟩)
    (c_Strip : PySem.W.codeIn K cd_Strip "Strip.__init__" = true)
    (kp_Strip : PySem.W.keepIn K (.ref f_Strip) = true)
    (pg_Strip : PySem.W.plainGet K C2 Str.empty = true)
    (hd_Strip : PySem.W.hasDictIn K C2 = true)
    (po_Strip : PySem.W.plainOver K C2 = true)
    (sa_Strip : PySem.W.findIn K (.ref C2) "__setattr__" = some (some (.builtin "object.__setattr__")))
    (mk_Strip : PySem.W.makesIn K C2 = true)
    (kc_Strip : PySem.W.keepIn K (.ref C2) = true)
    (n_Strip_leads : PySem.W.findIn K (.ref C2) "leads" = some none)
    (n_Strip_points : PySem.W.findIn K (.ref C2) "points" = some none)
    (a_Piece : PySem.W.nsIn K mainGlobals "Piece" = some (some (.ref C3)))
    (i_Piece : PySem.W.findIn K (.ref C3) "__init__" = some (some (.ref f_Piece)))
    (y_Piece : PySem.W.isFn K (.ref f_Piece) = true)
    (l_Piece : K.lookup f_Piece = some ⟨oc_Piece, od_Piece, .func (PySem.W.fnOf "__init__" "Piece.__init__" (defArgs s_PcI) (defBody s_PcI) (defScope s_PcI) .none kV_Piece dc_Piece pm_Piece an_Piece cd_Piece ct_Piece), sl_Piece⟩)
    (c_Piece : PySem.W.codeIn K cd_Piece "Piece.__init__" = true)
    (kp_Piece : PySem.W.keepIn K (.ref f_Piece) = true)
    (pg_Piece : PySem.W.plainGet K C3 Str.empty = true)
    (hd_Piece : PySem.W.hasDictIn K C3 = true)
    (po_Piece : PySem.W.plainOver K C3 = true)
    (sa_Piece : PySem.W.findIn K (.ref C3) "__setattr__" = some (some (.builtin "object.__setattr__")))
    (mk_Piece : PySem.W.makesIn K C3 = true)
    (kc_Piece : PySem.W.keepIn K (.ref C3) = true)
    (n_Piece_length : PySem.W.findIn K (.ref C3) "length" = some none)
    (n_Piece_points : PySem.W.findIn K (.ref C3) "points" = some none)
    (s1 : PySem.W.nsIn K mainGlobals "SIGN" = some (some (.ref aS)))
    (s2 : K.lookup aS = some ⟨.type "tuple", od_SG, .seq #[.int 71 q_SG_0, .int 76 q_SG_1, .int 65 q_SG_2, .int 49 q_SG_3] m_SG, sl_SG⟩)
    (h1 : PySem.W.nsIn K mainGlobals "HEAD_BOUNDS" = some (some (.ref aH)))
    (h2 : K.lookup aH = some ⟨.type "tuple", od_HB, .seq #[.ref aH0, .ref aH1, .ref aH2, .ref aH3, .ref aH4, .ref aH5] m_HB, sl_HB⟩)
    (h3_0 : K.lookup aH0 = some ⟨.type "tuple", od_HB0, .seq #[.int 4 q_HB0_0, .int 4 q_HB0_1, .int 16 q_HB0_2, .int 1048575 q_HB0_3] m_HB0, sl_HB0⟩)
    (h3_1 : K.lookup aH1 = some ⟨.type "tuple", od_HB1, .seq #[.int 8 q_HB1_0, .int 4 q_HB1_1, .int 16 q_HB1_2, .int 1048575 q_HB1_3] m_HB1, sl_HB1⟩)
    (h3_2 : K.lookup aH2 = some ⟨.type "tuple", od_HB2, .seq #[.int 12 q_HB2_0, .int 2 q_HB2_1, .int 4 q_HB2_2, .int 4096 q_HB2_3] m_HB2, sl_HB2⟩)
    (h3_3 : K.lookup aH3 = some ⟨.type "tuple", od_HB3, .seq #[.int 14 q_HB3_0, .int 2 q_HB3_1, .int 4 q_HB3_2, .int 8192 q_HB3_3] m_HB3, sl_HB3⟩)
    (h3_4 : K.lookup aH4 = some ⟨.type "tuple", od_HB4, .seq #[.int 16 q_HB4_0, .int 2 q_HB4_1, .int 1 q_HB4_2, .int 2048 q_HB4_3] m_HB4, sl_HB4⟩)
    (h3_5 : K.lookup aH5 = some ⟨.type "tuple", od_HB5, .seq #[.int 18 q_HB5_0, .int 2 q_HB5_1, .int 0 q_HB5_2, .int 0 q_HB5_3] m_HB5, sl_HB5⟩)
    (r1 : PySem.W.nsIn K mainGlobals "RULES_OF_BYTES" = some (some (.ref aB)))
    (r2 : K.lookup aB = some ⟨.type "tuple", od_RB, .seq #[.ref f_sign_fault, .ref f_head_fault, .ref f_size_fault] m_RB, sl_RB⟩)
    (r3 : PySem.W.nsIn K mainGlobals "RULES_OF_DRAWINGS" = some (some (.ref aD)))
    (r4 : K.lookup aD = some ⟨.type "tuple", od_RD, .seq #[.ref f_point_fault, .ref f_line_fault, .ref f_frame_fault, .ref f_crossing_fault, .ref f_loose_end_fault, .ref f_island_fault, .ref f_hinge_fault, .ref f_mark_fault, .ref f_second_mark_fault, .ref f_bare_pane_fault] m_RD, sl_RD⟩) :
    ∃ fd : FuncData, (∀ (s : Shared) (us : List Value), us.length = (["a", "b", "bar", "joint", "loss", "cartoon"] : List Str).length → BindsTo s fd ⟨us, []⟩ ((["a", "b", "bar", "joint", "loss", "cartoon"] : List Str).zip us)) ∧ ∀ base : Heap, K.In base → base.Ns mainGlobals mg → FnOk P w K mg base CX0 10 fa fd ["a", "b", "bar", "joint", "loss", "cartoon"] (spR (Aps K)) := by
  have e := hfa.symm.trans (PySem.W.mg_of X G a_pieces)
  cases e
  have T : Txt K mg := { g_HEAD_SIZE := ⟨_, PySem.W.mg_of X G kp_HEAD_SIZE, _, rfl⟩, g_POINT_SIZE := ⟨_, PySem.W.mg_of X G kp_POINT_SIZE, _, rfl⟩, g_LINE_SIZE := ⟨_, PySem.W.mg_of X G kp_LINE_SIZE, _, rfl⟩, g_MARK_SIZE := ⟨_, PySem.W.mg_of X G kp_MARK_SIZE, _, rfl⟩, g_BEND_BITS := ⟨_, PySem.W.mg_of X G kp_BEND_BITS, _, rfl⟩, g_MOST_BYTES := ⟨_, PySem.W.mg_of X G kp_MOST_BYTES, _, rfl⟩, len := PySem.W.mg_none_of X G z_len, abs := PySem.W.mg_none_of X G z_abs, range := PySem.W.mg_none_of X G z_range, reversed := PySem.W.mg_none_of X G z_reversed, enumerate := PySem.W.mg_none_of X G z_enumerate, zip := PySem.W.mg_none_of X G z_zip, sorted := PySem.W.mg_none_of X G z_sorted, tuple := PySem.W.mg_none_of X G z_tuple }
  have sq := fun (a : Addr) (xs : List V) (its : Array Value) (n : Nat) (od : Option Addr) (sl : Array (Option Value)) (l : K.lookup a = some ⟨.type "tuple", od, .seq its n, sl⟩) (hz : its.size ≤ 100) (hv : Vals xs its.toList) => (fun H => .inr ⟨_, its, n, l, rfl, rfl, Nat.le_trans hz (by decide), hv⟩ : ∀ H, SqT K H a xs)
  have T2 : Txt2 K mg := {
    g_SIGN := ⟨aS, PySem.W.mg_of X G s1, sq _ _ _ _ _ _ s2 (by show 4 ≤ 100; decide) (.cons ⟨_, rfl⟩ (.cons ⟨_, rfl⟩ (.cons ⟨_, rfl⟩ (.cons ⟨_, rfl⟩ .nil))))⟩
    g_HEAD_BOUNDS := by
      refine ⟨aH, [.ref aH0, .ref aH1, .ref aH2, .ref aH3, .ref aH4, .ref aH5], PySem.W.mg_of X G h1, sq _ _ _ _ _ _ h2 (by show 6 ≤ 100; decide) (.cons rfl (.cons rfl (.cons rfl (.cons rfl (.cons rfl (.cons rfl .nil)))))), rfl, fun i q hq => ?_⟩
      match i, hq with
      | 0, hq => cases hq; exact ⟨aH0, rfl, sq _ _ _ _ _ _ h3_0 (by show 4 ≤ 100; decide) (.cons ⟨_, rfl⟩ (.cons ⟨_, rfl⟩ (.cons ⟨_, rfl⟩ (.cons ⟨_, rfl⟩ .nil))))⟩
      | 1, hq => cases hq; exact ⟨aH1, rfl, sq _ _ _ _ _ _ h3_1 (by show 4 ≤ 100; decide) (.cons ⟨_, rfl⟩ (.cons ⟨_, rfl⟩ (.cons ⟨_, rfl⟩ (.cons ⟨_, rfl⟩ .nil))))⟩
      | 2, hq => cases hq; exact ⟨aH2, rfl, sq _ _ _ _ _ _ h3_2 (by show 4 ≤ 100; decide) (.cons ⟨_, rfl⟩ (.cons ⟨_, rfl⟩ (.cons ⟨_, rfl⟩ (.cons ⟨_, rfl⟩ .nil))))⟩
      | 3, hq => cases hq; exact ⟨aH3, rfl, sq _ _ _ _ _ _ h3_3 (by show 4 ≤ 100; decide) (.cons ⟨_, rfl⟩ (.cons ⟨_, rfl⟩ (.cons ⟨_, rfl⟩ (.cons ⟨_, rfl⟩ .nil))))⟩
      | 4, hq => cases hq; exact ⟨aH4, rfl, sq _ _ _ _ _ _ h3_4 (by show 4 ≤ 100; decide) (.cons ⟨_, rfl⟩ (.cons ⟨_, rfl⟩ (.cons ⟨_, rfl⟩ (.cons ⟨_, rfl⟩ .nil))))⟩
      | 5, hq => cases hq; exact ⟨aH5, rfl, sq _ _ _ _ _ _ h3_5 (by show 4 ≤ 100; decide) (.cons ⟨_, rfl⟩ (.cons ⟨_, rfl⟩ (.cons ⟨_, rfl⟩ (.cons ⟨_, rfl⟩ .nil))))⟩
      | n + 6, hq => exact absurd hq (by simp [hbs]) }
  have T3 : Txt3 K mg := {
    rb := ⟨aB, f_sign_fault, f_head_fault, f_size_fault, PySem.W.mg_of X G r1, sq _ _ _ _ _ _ r2 (by show 3 ≤ 100; decide) (.cons rfl (.cons rfl (.cons rfl .nil))), PySem.W.mg_of X G a_sign_fault, PySem.W.mg_of X G a_head_fault, PySem.W.mg_of X G a_size_fault⟩
    rd := ⟨aD, f_point_fault, f_line_fault, f_frame_fault, f_crossing_fault, f_loose_end_fault, f_island_fault, f_hinge_fault, f_mark_fault, f_second_mark_fault, f_bare_pane_fault, PySem.W.mg_of X G r3, sq _ _ _ _ _ _ r4 (by show 10 ≤ 100; decide) (.cons rfl (.cons rfl (.cons rfl (.cons rfl (.cons rfl (.cons rfl (.cons rfl (.cons rfl (.cons rfl (.cons rfl .nil)))))))))), PySem.W.mg_of X G a_point_fault, PySem.W.mg_of X G a_line_fault, PySem.W.mg_of X G a_frame_fault, PySem.W.mg_of X G a_crossing_fault, PySem.W.mg_of X G a_loose_end_fault, PySem.W.mg_of X G a_island_fault, PySem.W.mg_of X G a_hinge_fault, PySem.W.mg_of X G a_mark_fault, PySem.W.mg_of X G a_second_mark_fault, PySem.W.mg_of X G a_bare_pane_fault⟩ }
  have cls_Drawing : DrC K C := ⟨⟨pg_Drawing, hd_Drawing, po_Drawing, sa_Drawing⟩, n_Drawing_width, n_Drawing_height, n_Drawing_points, n_Drawing_lines, n_Drawing_marks⟩
  have F_Drawing := fun_mk (st := s_DrI) l_Drawing c_Drawing kp_Drawing
  have b_Drawing := F_Drawing.binds (ps := ["self", "width", "height", "points", "lines", "marks"]) fun _ _ _ _ _ _ us hl => match us, hl with | [_, _, _, _, _, _], _ => rfl
  have cls_Strip : StC K C2 := ⟨⟨pg_Strip, hd_Strip, po_Strip, sa_Strip⟩, n_Strip_leads, n_Strip_points⟩
  have F_Strip := fun_mk (st := s_StI) l_Strip c_Strip kp_Strip
  have b_Strip := F_Strip.binds (ps := ["self", "leads", "points"]) fun _ _ _ _ _ _ us hl => match us, hl with | [_, _, _], _ => rfl
  have cls_Piece : PcC K C3 := ⟨⟨pg_Piece, hd_Piece, po_Piece, sa_Piece⟩, n_Piece_length, n_Piece_points⟩
  have F_Piece := fun_mk (st := s_PcI) l_Piece c_Piece kp_Piece
  have b_Piece := F_Piece.binds (ps := ["self", "length", "points"]) fun _ _ _ _ _ _ us hl => match us, hl with | [_, _, _], _ => rfl
  have d_number_at : Dfn K mg "number_at" s_number_at ["cartoon", "place", "size"] := ⟨f_number_at, _, fun_mk l_number_at c_number_at kp_number_at, PySem.W.mg_of X G a_number_at, kp_number_at, (fun_mk (st := s_number_at) l_number_at c_number_at kp_number_at).binds fun _ _ _ _ _ _ us hl => match us, hl with | [_, _, _], _ => rfl⟩
  have d_pair_at : Dfn K mg "pair_at" s_pair_at ["cartoon", "place", "size"] := ⟨f_pair_at, _, fun_mk l_pair_at c_pair_at kp_pair_at, PySem.W.mg_of X G a_pair_at, kp_pair_at, (fun_mk (st := s_pair_at) l_pair_at c_pair_at kp_pair_at).binds fun _ _ _ _ _ _ us hl => match us, hl with | [_, _, _], _ => rfl⟩
  have d_lines_begin : Dfn K mg "lines_begin" s_lines_begin ["cartoon"] := ⟨f_lines_begin, _, fun_mk l_lines_begin c_lines_begin kp_lines_begin, PySem.W.mg_of X G a_lines_begin, kp_lines_begin, (fun_mk (st := s_lines_begin) l_lines_begin c_lines_begin kp_lines_begin).binds fun _ _ _ _ _ _ us hl => match us, hl with | [_], _ => rfl⟩
  have d_marks_begin : Dfn K mg "marks_begin" s_marks_begin ["cartoon"] := ⟨f_marks_begin, _, fun_mk l_marks_begin c_marks_begin kp_marks_begin, PySem.W.mg_of X G a_marks_begin, kp_marks_begin, (fun_mk (st := s_marks_begin) l_marks_begin c_marks_begin kp_marks_begin).binds fun _ _ _ _ _ _ us hl => match us, hl with | [_], _ => rfl⟩
  have d_asked_size : Dfn K mg "asked_size" s_asked_size ["cartoon"] := ⟨f_asked_size, _, fun_mk l_asked_size c_asked_size kp_asked_size, PySem.W.mg_of X G a_asked_size, kp_asked_size, (fun_mk (st := s_asked_size) l_asked_size c_asked_size kp_asked_size).binds fun _ _ _ _ _ _ us hl => match us, hl with | [_], _ => rfl⟩
  have d_drawing_of : Dfn K mg "drawing_of" s_drawing_of ["cartoon"] := ⟨f_drawing_of, _, fun_mk l_drawing_of c_drawing_of kp_drawing_of, PySem.W.mg_of X G a_drawing_of, kp_drawing_of, (fun_mk (st := s_drawing_of) l_drawing_of c_drawing_of kp_drawing_of).binds fun _ _ _ _ _ _ us hl => match us, hl with | [_], _ => rfl⟩
  have d_point_place : Dfn K mg "point_place" s_point_place ["i"] := ⟨f_point_place, _, fun_mk l_point_place c_point_place kp_point_place, PySem.W.mg_of X G a_point_place, kp_point_place, (fun_mk (st := s_point_place) l_point_place c_point_place kp_point_place).binds fun _ _ _ _ _ _ us hl => match us, hl with | [_], _ => rfl⟩
  have d_line_place : Dfn K mg "line_place" s_line_place ["drawing", "i"] := ⟨f_line_place, _, fun_mk l_line_place c_line_place kp_line_place, PySem.W.mg_of X G a_line_place, kp_line_place, (fun_mk (st := s_line_place) l_line_place c_line_place kp_line_place).binds fun _ _ _ _ _ _ us hl => match us, hl with | [_, _], _ => rfl⟩
  have d_mark_place : Dfn K mg "mark_place" s_mark_place ["drawing", "i"] := ⟨f_mark_place, _, fun_mk l_mark_place c_mark_place kp_mark_place, PySem.W.mg_of X G a_mark_place, kp_mark_place, (fun_mk (st := s_mark_place) l_mark_place c_mark_place kp_mark_place).binds fun _ _ _ _ _ _ us hl => match us, hl with | [_, _], _ => rfl⟩
  have d_on_frame : Dfn K mg "on_frame" s_on_frame ["drawing", "point"] := ⟨f_on_frame, _, fun_mk l_on_frame c_on_frame kp_on_frame, PySem.W.mg_of X G a_on_frame, kp_on_frame, (fun_mk (st := s_on_frame) l_on_frame c_on_frame kp_on_frame).binds fun _ _ _ _ _ _ us hl => match us, hl with | [_, _], _ => rfl⟩
  have d_other_end : Dfn K mg "other_end" s_other_end ["line", "point"] := ⟨f_other_end, _, fun_mk l_other_end c_other_end kp_other_end, PySem.W.mg_of X G a_other_end, kp_other_end, (fun_mk (st := s_other_end) l_other_end c_other_end kp_other_end).binds fun _ _ _ _ _ _ us hl => match us, hl with | [_, _], _ => rfl⟩
  have d_turn : Dfn K mg "turn" s_turn ["p", "q", "r"] := ⟨f_turn, _, fun_mk l_turn c_turn kp_turn, PySem.W.mg_of X G a_turn, kp_turn, (fun_mk (st := s_turn) l_turn c_turn kp_turn).binds fun _ _ _ _ _ _ us hl => match us, hl with | [_, _, _], _ => rfl⟩
  have d_onward : Dfn K mg "onward" s_onward ["p", "v", "q"] := ⟨f_onward, _, fun_mk l_onward c_onward kp_onward, PySem.W.mg_of X G a_onward, kp_onward, (fun_mk (st := s_onward) l_onward c_onward kp_onward).binds fun _ _ _ _ _ _ us hl => match us, hl with | [_, _, _], _ => rfl⟩
  have d_between : Dfn K mg "between" s_between ["number", "p", "q"] := ⟨f_between, _, fun_mk l_between c_between kp_between, PySem.W.mg_of X G a_between, kp_between, (fun_mk (st := s_between) l_between c_between kp_between).binds fun _ _ _ _ _ _ us hl => match us, hl with | [_, _, _], _ => rfl⟩
  have d_lies_on : Dfn K mg "lies_on" s_lies_on ["r", "p", "q"] := ⟨f_lies_on, _, fun_mk l_lies_on c_lies_on kp_lies_on, PySem.W.mg_of X G a_lies_on, kp_lies_on, (fun_mk (st := s_lies_on) l_lies_on c_lies_on kp_lies_on).binds fun _ _ _ _ _ _ us hl => match us, hl with | [_, _, _], _ => rfl⟩
  have d_apart : Dfn K mg "apart" s_apart ["p", "q", "r", "s"] := ⟨f_apart, _, fun_mk l_apart c_apart kp_apart, PySem.W.mg_of X G a_apart, kp_apart, (fun_mk (st := s_apart) l_apart c_apart kp_apart).binds fun _ _ _ _ _ _ us hl => match us, hl with | [_, _, _, _], _ => rfl⟩
  have d_cross : Dfn K mg "cross" s_cross ["p", "q", "r", "s"] := ⟨f_cross, _, fun_mk l_cross c_cross kp_cross, PySem.W.mg_of X G a_cross, kp_cross, (fun_mk (st := s_cross) l_cross c_cross kp_cross).binds fun _ _ _ _ _ _ us hl => match us, hl with | [_, _, _, _], _ => rfl⟩
  have d_comes_behind : Dfn K mg "comes_behind" s_comes_behind ["p", "q"] := ⟨f_comes_behind, _, fun_mk l_comes_behind c_comes_behind kp_comes_behind, PySem.W.mg_of X G a_comes_behind, kp_comes_behind, (fun_mk (st := s_comes_behind) l_comes_behind c_comes_behind kp_comes_behind).binds fun _ _ _ _ _ _ us hl => match us, hl with | [_, _], _ => rfl⟩
  have d_is_lead : Dfn K mg "is_lead" s_is_lead ["drawing", "line"] := ⟨f_is_lead, _, fun_mk l_is_lead c_is_lead kp_is_lead, PySem.W.mg_of X G a_is_lead, kp_is_lead, (fun_mk (st := s_is_lead) l_is_lead c_is_lead kp_is_lead).binds fun _ _ _ _ _ _ us hl => match us, hl with | [_, _], _ => rfl⟩
  have d_leads_of : Dfn K mg "leads_of" s_leads_of ["drawing"] := ⟨f_leads_of, _, fun_mk l_leads_of c_leads_of kp_leads_of, PySem.W.mg_of X G a_leads_of, kp_leads_of, (fun_mk (st := s_leads_of) l_leads_of c_leads_of kp_leads_of).binds fun _ _ _ _ _ _ us hl => match us, hl with | [_], _ => rfl⟩
  have d_leads_by_point : Dfn K mg "leads_by_point" s_leads_by_point ["drawing"] := ⟨f_leads_by_point, _, fun_mk l_leads_by_point c_leads_by_point kp_leads_by_point, PySem.W.mg_of X G a_leads_by_point, kp_leads_by_point, (fun_mk (st := s_leads_by_point) l_leads_by_point c_leads_by_point kp_leads_by_point).binds fun _ _ _ _ _ _ us hl => match us, hl with | [_], _ => rfl⟩
  have d_pairs_through : Dfn K mg "pairs_through" s_pairs_through ["drawing", "point", "leads", "a", "b"] := ⟨f_pairs_through, _, fun_mk l_pairs_through c_pairs_through kp_pairs_through, PySem.W.mg_of X G a_pairs_through, kp_pairs_through, (fun_mk (st := s_pairs_through) l_pairs_through c_pairs_through kp_pairs_through).binds fun _ _ _ _ _ _ us hl => match us, hl with | [_, _, _, _, _], _ => rfl⟩
  have d_joins_of : Dfn K mg "joins_of" s_joins_of ["drawing", "a", "b"] := ⟨f_joins_of, _, fun_mk l_joins_of c_joins_of kp_joins_of, PySem.W.mg_of X G a_joins_of, kp_joins_of, (fun_mk (st := s_joins_of) l_joins_of c_joins_of kp_joins_of).binds fun _ _ _ _ _ _ us hl => match us, hl with | [_, _, _], _ => rfl⟩
  have d_root_above : Dfn K mg "root_above" s_root_above ["number"] := ⟨f_root_above, _, fun_mk l_root_above c_root_above kp_root_above, PySem.W.mg_of X G a_root_above, kp_root_above, (fun_mk (st := s_root_above) l_root_above c_root_above kp_root_above).binds fun _ _ _ _ _ _ us hl => match us, hl with | [_], _ => rfl⟩
  have d_distance_above : Dfn K mg "distance_above" s_distance_above ["p", "q"] := ⟨f_distance_above, _, fun_mk l_distance_above c_distance_above kp_distance_above, PySem.W.mg_of X G a_distance_above, kp_distance_above, (fun_mk (st := s_distance_above) l_distance_above c_distance_above kp_distance_above).binds fun _ _ _ _ _ _ us hl => match us, hl with | [_, _], _ => rfl⟩
  have d_lengths_of : Dfn K mg "lengths_of" s_lengths_of ["drawing"] := ⟨f_lengths_of, _, fun_mk l_lengths_of c_lengths_of kp_lengths_of, PySem.W.mg_of X G a_lengths_of, kp_lengths_of, (fun_mk (st := s_lengths_of) l_lengths_of c_lengths_of kp_lengths_of).binds fun _ _ _ _ _ _ us hl => match us, hl with | [_], _ => rfl⟩
  have d_walked : Dfn K mg "walked" s_walked ["drawing", "joined", "lead", "start"] := ⟨f_walked, _, fun_mk l_walked c_walked kp_walked, PySem.W.mg_of X G a_walked, kp_walked, (fun_mk (st := s_walked) l_walked c_walked kp_walked).binds fun _ _ _ _ _ _ us hl => match us, hl with | [_, _, _, _], _ => rfl⟩
  have d_strip_of_least : Dfn K mg "strip_of_least" s_strip_of_least ["drawing", "joined", "lead"] := ⟨f_strip_of_least, _, fun_mk l_strip_of_least c_strip_of_least kp_strip_of_least, PySem.W.mg_of X G a_strip_of_least, kp_strip_of_least, (fun_mk (st := s_strip_of_least) l_strip_of_least c_strip_of_least kp_strip_of_least).binds fun _ _ _ _ _ _ us hl => match us, hl with | [_, _, _], _ => rfl⟩
  have d_strips_of : Dfn K mg "strips_of" s_strips_of ["drawing", "a", "b"] := ⟨f_strips_of, _, fun_mk l_strips_of c_strips_of kp_strips_of, PySem.W.mg_of X G a_strips_of, kp_strips_of, (fun_mk (st := s_strips_of) l_strips_of c_strips_of kp_strips_of).binds fun _ _ _ _ _ _ us hl => match us, hl with | [_, _, _], _ => rfl⟩
  have d_lead_too_long : Dfn K mg "lead_too_long" s_lead_too_long ["lengths", "bar", "joint"] := ⟨f_lead_too_long, _, fun_mk l_lead_too_long c_lead_too_long kp_lead_too_long, PySem.W.mg_of X G a_lead_too_long, kp_lead_too_long, (fun_mk (st := s_lead_too_long) l_lead_too_long c_lead_too_long kp_lead_too_long).binds fun _ _ _ _ _ _ us hl => match us, hl with | [_, _, _], _ => rfl⟩
  have d_parted : Dfn K mg "parted" s_parted ["strip", "lengths", "bar", "joint"] := ⟨f_parted, _, fun_mk l_parted c_parted kp_parted, PySem.W.mg_of X G a_parted, kp_parted, (fun_mk (st := s_parted) l_parted c_parted kp_parted).binds fun _ _ _ _ _ _ us hl => match us, hl with | [_, _, _, _], _ => rfl⟩
  have d_pieces_of : Dfn K mg "pieces_of" s_pieces_of ["drawing", "a", "b", "bar", "joint"] := ⟨f_pieces_of, _, fun_mk l_pieces_of c_pieces_of kp_pieces_of, PySem.W.mg_of X G a_pieces_of, kp_pieces_of, (fun_mk (st := s_pieces_of) l_pieces_of c_pieces_of kp_pieces_of).binds fun _ _ _ _ _ _ us hl => match us, hl with | [_, _, _, _, _], _ => rfl⟩
  have d_neighbours_of : Dfn K mg "neighbours_of" s_neighbours_of ["drawing"] := ⟨f_neighbours_of, _, fun_mk l_neighbours_of c_neighbours_of kp_neighbours_of, PySem.W.mg_of X G a_neighbours_of, kp_neighbours_of, (fun_mk (st := s_neighbours_of) l_neighbours_of c_neighbours_of kp_neighbours_of).binds fun _ _ _ _ _ _ us hl => match us, hl with | [_], _ => rfl⟩
  have d_reached : Dfn K mg "reached" s_reached ["neighbours", "start", "shut"] := ⟨f_reached, _, fun_mk l_reached c_reached kp_reached, PySem.W.mg_of X G a_reached, kp_reached, (fun_mk (st := s_reached) l_reached c_reached kp_reached).binds fun _ _ _ _ _ _ us hl => match us, hl with | [_, _, _], _ => rfl⟩
  have d_parts_others : Dfn K mg "parts_others" s_parts_others ["neighbours", "point"] := ⟨f_parts_others, _, fun_mk l_parts_others c_parts_others kp_parts_others, PySem.W.mg_of X G a_parts_others, kp_parts_others, (fun_mk (st := s_parts_others) l_parts_others c_parts_others kp_parts_others).binds fun _ _ _ _ _ _ us hl => match us, hl with | [_, _], _ => rfl⟩
  have d_more_left : Dfn K mg "more_left" s_more_left ["u", "v", "p", "q"] := ⟨f_more_left, _, fun_mk l_more_left c_more_left kp_more_left, PySem.W.mg_of X G a_more_left, kp_more_left, (fun_mk (st := s_more_left) l_more_left c_more_left kp_more_left).binds fun _ _ _ _ _ _ us hl => match us, hl with | [_, _, _, _], _ => rfl⟩
  have d_leftmost : Dfn K mg "leftmost" s_leftmost ["points", "neighbours", "come_from", "here"] := ⟨f_leftmost, _, fun_mk l_leftmost c_leftmost kp_leftmost, PySem.W.mg_of X G a_leftmost, kp_leftmost, (fun_mk (st := s_leftmost) l_leftmost c_leftmost kp_leftmost).binds fun _ _ _ _ _ _ us hl => match us, hl with | [_, _, _, _], _ => rfl⟩
  have d_outline_from : Dfn K mg "outline_from" s_outline_from ["points", "neighbours", "first", "second"] := ⟨f_outline_from, _, fun_mk l_outline_from c_outline_from kp_outline_from, PySem.W.mg_of X G a_outline_from, kp_outline_from, (fun_mk (st := s_outline_from) l_outline_from c_outline_from kp_outline_from).binds fun _ _ _ _ _ _ us hl => match us, hl with | [_, _, _, _], _ => rfl⟩
  have d_twice_area : Dfn K mg "twice_area" s_twice_area ["corners"] := ⟨f_twice_area, _, fun_mk l_twice_area c_twice_area kp_twice_area, PySem.W.mg_of X G a_twice_area, kp_twice_area, (fun_mk (st := s_twice_area) l_twice_area c_twice_area kp_twice_area).binds fun _ _ _ _ _ _ us hl => match us, hl with | [_], _ => rfl⟩
  have d_panes_of : Dfn K mg "panes_of" s_panes_of ["drawing"] := ⟨f_panes_of, _, fun_mk l_panes_of c_panes_of kp_panes_of, PySem.W.mg_of X G a_panes_of, kp_panes_of, (fun_mk (st := s_panes_of) l_panes_of c_panes_of kp_panes_of).binds fun _ _ _ _ _ _ us hl => match us, hl with | [_], _ => rfl⟩
  have d_surrounds : Dfn K mg "surrounds" s_surrounds ["corners", "mark"] := ⟨f_surrounds, _, fun_mk l_surrounds c_surrounds kp_surrounds, PySem.W.mg_of X G a_surrounds, kp_surrounds, (fun_mk (st := s_surrounds) l_surrounds c_surrounds kp_surrounds).binds fun _ _ _ _ _ _ us hl => match us, hl with | [_, _], _ => rfl⟩
  have d_pane_at : Dfn K mg "pane_at" s_pane_at ["panes", "mark"] := ⟨f_pane_at, _, fun_mk l_pane_at c_pane_at kp_pane_at, PySem.W.mg_of X G a_pane_at, kp_pane_at, (fun_mk (st := s_pane_at) l_pane_at c_pane_at kp_pane_at).binds fun _ _ _ _ _ _ us hl => match us, hl with | [_, _], _ => rfl⟩
  have d_sign_fault : Dfn K mg "sign_fault" s_sign_fault ["cartoon"] := ⟨f_sign_fault, _, fun_mk l_sign_fault c_sign_fault kp_sign_fault, PySem.W.mg_of X G a_sign_fault, kp_sign_fault, (fun_mk (st := s_sign_fault) l_sign_fault c_sign_fault kp_sign_fault).binds fun _ _ _ _ _ _ us hl => match us, hl with | [_], _ => rfl⟩
  have d_head_fault : Dfn K mg "head_fault" s_head_fault ["cartoon"] := ⟨f_head_fault, _, fun_mk l_head_fault c_head_fault kp_head_fault, PySem.W.mg_of X G a_head_fault, kp_head_fault, (fun_mk (st := s_head_fault) l_head_fault c_head_fault kp_head_fault).binds fun _ _ _ _ _ _ us hl => match us, hl with | [_], _ => rfl⟩
  have d_size_fault : Dfn K mg "size_fault" s_size_fault ["cartoon"] := ⟨f_size_fault, _, fun_mk l_size_fault c_size_fault kp_size_fault, PySem.W.mg_of X G a_size_fault, kp_size_fault, (fun_mk (st := s_size_fault) l_size_fault c_size_fault kp_size_fault).binds fun _ _ _ _ _ _ us hl => match us, hl with | [_], _ => rfl⟩
  have d_point_fault : Dfn K mg "point_fault" s_point_fault ["drawing"] := ⟨f_point_fault, _, fun_mk l_point_fault c_point_fault kp_point_fault, PySem.W.mg_of X G a_point_fault, kp_point_fault, (fun_mk (st := s_point_fault) l_point_fault c_point_fault kp_point_fault).binds fun _ _ _ _ _ _ us hl => match us, hl with | [_], _ => rfl⟩
  have d_line_fault : Dfn K mg "line_fault" s_line_fault ["drawing"] := ⟨f_line_fault, _, fun_mk l_line_fault c_line_fault kp_line_fault, PySem.W.mg_of X G a_line_fault, kp_line_fault, (fun_mk (st := s_line_fault) l_line_fault c_line_fault kp_line_fault).binds fun _ _ _ _ _ _ us hl => match us, hl with | [_], _ => rfl⟩
  have d_edge_rows : Dfn K mg "edge_rows" s_edge_rows ["drawing"] := ⟨f_edge_rows, _, fun_mk l_edge_rows c_edge_rows kp_edge_rows, PySem.W.mg_of X G a_edge_rows, kp_edge_rows, (fun_mk (st := s_edge_rows) l_edge_rows c_edge_rows kp_edge_rows).binds fun _ _ _ _ _ _ us hl => match us, hl with | [_], _ => rfl⟩
  have d_frame_fault : Dfn K mg "frame_fault" s_frame_fault ["drawing"] := ⟨f_frame_fault, _, fun_mk l_frame_fault c_frame_fault kp_frame_fault, PySem.W.mg_of X G a_frame_fault, kp_frame_fault, (fun_mk (st := s_frame_fault) l_frame_fault c_frame_fault kp_frame_fault).binds fun _ _ _ _ _ _ us hl => match us, hl with | [_], _ => rfl⟩
  have d_has_point_on_it : Dfn K mg "has_point_on_it" s_has_point_on_it ["drawing", "line"] := ⟨f_has_point_on_it, _, fun_mk l_has_point_on_it c_has_point_on_it kp_has_point_on_it, PySem.W.mg_of X G a_has_point_on_it, kp_has_point_on_it, (fun_mk (st := s_has_point_on_it) l_has_point_on_it c_has_point_on_it kp_has_point_on_it).binds fun _ _ _ _ _ _ us hl => match us, hl with | [_, _], _ => rfl⟩
  have d_crosses_one_of : Dfn K mg "crosses_one_of" s_crosses_one_of ["drawing", "line", "others"] := ⟨f_crosses_one_of, _, fun_mk l_crosses_one_of c_crosses_one_of kp_crosses_one_of, PySem.W.mg_of X G a_crosses_one_of, kp_crosses_one_of, (fun_mk (st := s_crosses_one_of) l_crosses_one_of c_crosses_one_of kp_crosses_one_of).binds fun _ _ _ _ _ _ us hl => match us, hl with | [_, _, _], _ => rfl⟩
  have d_crossing_fault : Dfn K mg "crossing_fault" s_crossing_fault ["drawing"] := ⟨f_crossing_fault, _, fun_mk l_crossing_fault c_crossing_fault kp_crossing_fault, PySem.W.mg_of X G a_crossing_fault, kp_crossing_fault, (fun_mk (st := s_crossing_fault) l_crossing_fault c_crossing_fault kp_crossing_fault).binds fun _ _ _ _ _ _ us hl => match us, hl with | [_], _ => rfl⟩
  have d_loose_end_fault : Dfn K mg "loose_end_fault" s_loose_end_fault ["drawing"] := ⟨f_loose_end_fault, _, fun_mk l_loose_end_fault c_loose_end_fault kp_loose_end_fault, PySem.W.mg_of X G a_loose_end_fault, kp_loose_end_fault, (fun_mk (st := s_loose_end_fault) l_loose_end_fault c_loose_end_fault kp_loose_end_fault).binds fun _ _ _ _ _ _ us hl => match us, hl with | [_], _ => rfl⟩
  have d_island_fault : Dfn K mg "island_fault" s_island_fault ["drawing"] := ⟨f_island_fault, _, fun_mk l_island_fault c_island_fault kp_island_fault, PySem.W.mg_of X G a_island_fault, kp_island_fault, (fun_mk (st := s_island_fault) l_island_fault c_island_fault kp_island_fault).binds fun _ _ _ _ _ _ us hl => match us, hl with | [_], _ => rfl⟩
  have d_hinge_fault : Dfn K mg "hinge_fault" s_hinge_fault ["drawing"] := ⟨f_hinge_fault, _, fun_mk l_hinge_fault c_hinge_fault kp_hinge_fault, PySem.W.mg_of X G a_hinge_fault, kp_hinge_fault, (fun_mk (st := s_hinge_fault) l_hinge_fault c_hinge_fault kp_hinge_fault).binds fun _ _ _ _ _ _ us hl => match us, hl with | [_], _ => rfl⟩
  have d_on_some_line : Dfn K mg "on_some_line" s_on_some_line ["drawing", "mark"] := ⟨f_on_some_line, _, fun_mk l_on_some_line c_on_some_line kp_on_some_line, PySem.W.mg_of X G a_on_some_line, kp_on_some_line, (fun_mk (st := s_on_some_line) l_on_some_line c_on_some_line kp_on_some_line).binds fun _ _ _ _ _ _ us hl => match us, hl with | [_, _], _ => rfl⟩
  have d_mark_fault : Dfn K mg "mark_fault" s_mark_fault ["drawing"] := ⟨f_mark_fault, _, fun_mk l_mark_fault c_mark_fault kp_mark_fault, PySem.W.mg_of X G a_mark_fault, kp_mark_fault, (fun_mk (st := s_mark_fault) l_mark_fault c_mark_fault kp_mark_fault).binds fun _ _ _ _ _ _ us hl => match us, hl with | [_], _ => rfl⟩
  have d_second_mark_fault : Dfn K mg "second_mark_fault" s_second_mark_fault ["drawing"] := ⟨f_second_mark_fault, _, fun_mk l_second_mark_fault c_second_mark_fault kp_second_mark_fault, PySem.W.mg_of X G a_second_mark_fault, kp_second_mark_fault, (fun_mk (st := s_second_mark_fault) l_second_mark_fault c_second_mark_fault kp_second_mark_fault).binds fun _ _ _ _ _ _ us hl => match us, hl with | [_], _ => rfl⟩
  have d_bare_pane_fault : Dfn K mg "bare_pane_fault" s_bare_pane_fault ["drawing"] := ⟨f_bare_pane_fault, _, fun_mk l_bare_pane_fault c_bare_pane_fault kp_bare_pane_fault, PySem.W.mg_of X G a_bare_pane_fault, kp_bare_pane_fault, (fun_mk (st := s_bare_pane_fault) l_bare_pane_fault c_bare_pane_fault kp_bare_pane_fault).binds fun _ _ _ _ _ _ us hl => match us, hl with | [_], _ => rfl⟩
  have d_first_fault : Dfn K mg "first_fault" s_first_fault ["cartoon"] := ⟨f_first_fault, _, fun_mk l_first_fault c_first_fault kp_first_fault, PySem.W.mg_of X G a_first_fault, kp_first_fault, (fun_mk (st := s_first_fault) l_first_fault c_first_fault kp_first_fault).binds fun _ _ _ _ _ _ us hl => match us, hl with | [_], _ => rfl⟩
  have d_is_shop : Dfn K mg "is_shop" s_is_shop ["a", "b", "bar", "joint", "loss"] := ⟨f_is_shop, _, fun_mk l_is_shop c_is_shop kp_is_shop, PySem.W.mg_of X G a_is_shop, kp_is_shop, (fun_mk (st := s_is_shop) l_is_shop c_is_shop kp_is_shop).binds fun _ _ _ _ _ _ us hl => match us, hl with | [_, _, _, _, _], _ => rfl⟩
  have d_refusal_of : Dfn K mg "refusal_of" s_refusal_of ["a", "b", "bar", "joint", "loss", "cartoon"] := ⟨f_refusal_of, _, fun_mk l_refusal_of c_refusal_of kp_refusal_of, PySem.W.mg_of X G a_refusal_of, kp_refusal_of, (fun_mk (st := s_refusal_of) l_refusal_of c_refusal_of kp_refusal_of).binds fun _ _ _ _ _ _ us hl => match us, hl with | [_, _, _, _, _, _], _ => rfl⟩
  have d_refusal_of_parting : Dfn K mg "refusal_of_parting" s_refusal_of_parting ["a", "b", "bar", "joint", "loss", "cartoon"] := ⟨f_refusal_of_parting, _, fun_mk l_refusal_of_parting c_refusal_of_parting kp_refusal_of_parting, PySem.W.mg_of X G a_refusal_of_parting, kp_refusal_of_parting, (fun_mk (st := s_refusal_of_parting) l_refusal_of_parting c_refusal_of_parting kp_refusal_of_parting).binds fun _ _ _ _ _ _ us hl => match us, hl with | [_, _, _, _, _, _], _ => rfl⟩
  have F0 := fun_mk (st := s_pieces) l_pieces c_pieces kp_pieces
  refine ⟨_, fun s us hu => match us, hu with | [_, _, _, _, _, _], _ => .of_eq rfl, fun base _ _ => (?_ : FnOk P w K mg base CX0 10 _ (PySem.W.fnOf "pieces" "pieces" (defArgs s_pieces) (defBody s_pieces) (defScope s_pieces) .none kV_pieces dc_pieces pm_pieces an_pieces cd_pieces ct_pieces) ["a", "b", "bar", "joint", "loss", "cartoon"] _)⟩
  have m_Drawing : Mak P w K mg base 1 "Drawing" C dnames := ⟨f_Drawing, _, _, ⟨mk_Drawing, i_Drawing, y_Drawing, kc_Drawing⟩, k_DrI cls_Drawing F_Drawing, PySem.W.mg_of X G a_Drawing, b_Drawing⟩
  have m_Strip : Mak P w K mg base 1 "Strip" C2 snames := ⟨f_Strip, _, _, ⟨mk_Strip, i_Strip, y_Strip, kc_Strip⟩, k_StI cls_Strip F_Strip, PySem.W.mg_of X G a_Strip, b_Strip⟩
  have m_Piece : Mak P w K mg base 1 "Piece" C3 pnames := ⟨f_Piece, _, _, ⟨mk_Piece, i_Piece, y_Piece, kc_Piece⟩, k_PcI cls_Piece F_Piece, PySem.W.mg_of X G a_Piece, b_Piece⟩
  have g_is_shop := k_is_shop (P := P) (w := w) (base := base) (F := d_is_shop)
  have g_number_at := k_number_at (P := P) (w := w) (base := base) (T := T) (F := d_number_at)
  have g_pair_at := k_pair_at (P := P) (w := w) (base := base) (F := d_pair_at) (c_number_at := g_number_at)
  have g_lines_begin := k_lines_begin (P := P) (w := w) (base := base) (T := T) (F := d_lines_begin) (c_number_at := g_number_at)
  have g_marks_begin := k_marks_begin (P := P) (w := w) (base := base) (T := T) (F := d_marks_begin) (c_number_at := g_number_at) (c_lines_begin := g_lines_begin)
  have g_drawing_of := k_drawing_of (P := P) (w := w) (base := base) (T := T) (D := cls_Drawing) (F := d_drawing_of) (c_number_at := g_number_at) (c_pair_at := g_pair_at) (c_lines_begin := g_lines_begin) (c_marks_begin := g_marks_begin) (c_Drawing := m_Drawing)
  have g_sign_fault := k_sign_fault (P := P) (w := w) (base := base) (T := T) (T2 := T2) (F := d_sign_fault)
  have g_head_fault := k_head_fault (P := P) (w := w) (base := base) (T := T) (T2 := T2) (F := d_head_fault) (c_number_at := g_number_at)
  have g_asked_size := k_asked_size (P := P) (w := w) (base := base) (T := T) (F := d_asked_size) (c_number_at := g_number_at) (c_marks_begin := g_marks_begin)
  have g_size_fault := k_size_fault (P := P) (w := w) (base := base) (T := T) (F := d_size_fault) (c_asked_size := g_asked_size)
  have g_point_place := k_point_place (P := P) (w := w) (base := base) (T := T) (F := d_point_place)
  have g_comes_behind := k_comes_behind (P := P) (w := w) (base := base) (F := d_comes_behind)
  have g_point_fault := k_point_fault (P := P) (w := w) (base := base) (T := T) (D := cls_Drawing) (F := d_point_fault) (c_point_place := g_point_place) (c_comes_behind := g_comes_behind)
  have g_line_place := k_line_place (P := P) (w := w) (base := base) (T := T) (D := cls_Drawing) (F := d_line_place) (c_point_place := g_point_place)
  have g_line_fault := k_line_fault (P := P) (w := w) (base := base) (T := T) (D := cls_Drawing) (F := d_line_fault) (c_line_place := g_line_place)
  have g_edge_rows := k_edge_rows (P := P) (w := w) (base := base) (T := T) (D := cls_Drawing) (F := d_edge_rows)
  have g_frame_fault := k_frame_fault (P := P) (w := w) (base := base) (T := T) (D := cls_Drawing) (F := d_frame_fault) (c_edge_rows := g_edge_rows)
  have g_turn := k_turn (P := P) (w := w) (base := base) (F := d_turn)
  have g_between := k_between (P := P) (w := w) (base := base) (F := d_between)
  have g_lies_on := k_lies_on (P := P) (w := w) (base := base) (F := d_lies_on) (c_turn := g_turn) (c_between := g_between)
  have g_has_point_on_it := k_has_point_on_it (P := P) (w := w) (base := base) (T := T) (D := cls_Drawing) (F := d_has_point_on_it) (c_lies_on := g_lies_on)
  have g_apart := k_apart (P := P) (w := w) (base := base) (F := d_apart) (c_turn := g_turn)
  have g_cross := k_cross (P := P) (w := w) (base := base) (F := d_cross) (c_apart := g_apart)
  have g_crosses_one_of := k_crosses_one_of (P := P) (w := w) (base := base) (T := T) (D := cls_Drawing) (F := d_crosses_one_of) (c_cross := g_cross)
  have g_crossing_fault := k_crossing_fault (P := P) (w := w) (base := base) (T := T) (D := cls_Drawing) (F := d_crossing_fault) (c_line_place := g_line_place) (c_has_point_on_it := g_has_point_on_it) (c_crosses_one_of := g_crosses_one_of)
  have g_neighbours_of := k_neighbours_of (P := P) (w := w) (base := base) (T := T) (D := cls_Drawing) (F := d_neighbours_of)
  have g_loose_end_fault := k_loose_end_fault (P := P) (w := w) (base := base) (T := T) (F := d_loose_end_fault) (c_point_place := g_point_place) (c_neighbours_of := g_neighbours_of)
  have g_reached := k_reached (P := P) (w := w) (base := base) (F := d_reached)
  have g_island_fault := k_island_fault (P := P) (w := w) (base := base) (T := T) (F := d_island_fault) (c_point_place := g_point_place) (c_neighbours_of := g_neighbours_of) (c_reached := g_reached)
  have g_parts_others := k_parts_others (P := P) (w := w) (base := base) (T := T) (F := d_parts_others) (c_reached := g_reached)
  have g_hinge_fault := k_hinge_fault (P := P) (w := w) (base := base) (T := T) (F := d_hinge_fault) (c_point_place := g_point_place) (c_neighbours_of := g_neighbours_of) (c_parts_others := g_parts_others)
  have g_mark_place := k_mark_place (P := P) (w := w) (base := base) (T := T) (D := cls_Drawing) (F := d_mark_place) (c_line_place := g_line_place)
  have g_on_some_line := k_on_some_line (P := P) (w := w) (base := base) (T := T) (D := cls_Drawing) (F := d_on_some_line) (c_lies_on := g_lies_on)
  have g_mark_fault := k_mark_fault (P := P) (w := w) (base := base) (T := T) (D := cls_Drawing) (F := d_mark_fault) (c_mark_place := g_mark_place) (c_comes_behind := g_comes_behind) (c_on_some_line := g_on_some_line)
  have g_more_left := k_more_left (P := P) (w := w) (base := base) (F := d_more_left) (c_turn := g_turn)
  have g_leftmost := k_leftmost (P := P) (w := w) (base := base) (F := d_leftmost) (c_more_left := g_more_left)
  have g_outline_from := k_outline_from (P := P) (w := w) (base := base) (F := d_outline_from) (c_leftmost := g_leftmost)
  have g_twice_area := k_twice_area (P := P) (w := w) (base := base) (F := d_twice_area)
  have g_panes_of := k_panes_of (P := P) (w := w) (base := base) (T := T) (D := cls_Drawing) (F := d_panes_of) (c_neighbours_of := g_neighbours_of) (c_outline_from := g_outline_from) (c_twice_area := g_twice_area)
  have g_surrounds := k_surrounds (P := P) (w := w) (base := base) (F := d_surrounds) (c_turn := g_turn)
  have g_pane_at := k_pane_at (P := P) (w := w) (base := base) (T := T) (F := d_pane_at) (c_surrounds := g_surrounds)
  have g_second_mark_fault := k_second_mark_fault (P := P) (w := w) (base := base) (T := T) (D := cls_Drawing) (F := d_second_mark_fault) (c_mark_place := g_mark_place) (c_panes_of := g_panes_of) (c_pane_at := g_pane_at)
  have g_bare_pane_fault := k_bare_pane_fault (P := P) (w := w) (base := base) (T := T) (D := cls_Drawing) (F := d_bare_pane_fault) (c_mark_place := g_mark_place) (c_panes_of := g_panes_of)
  have g_first_fault := k_first_fault (P := P) (w := w) (base := base) (T := T) (T3 := T3) (F := d_first_fault) (c_drawing_of := g_drawing_of) (r1 := g_sign_fault) (r2 := g_head_fault) (r3 := g_size_fault) (r4 := g_point_fault) (r5 := g_line_fault) (r6 := g_frame_fault) (r7 := g_crossing_fault) (r8 := g_loose_end_fault) (r9 := g_island_fault) (r10 := g_hinge_fault) (r11 := g_mark_fault) (r12 := g_second_mark_fault) (r13 := g_bare_pane_fault)
  have g_refusal_of := k_refusal_of (P := P) (w := w) (base := base) (T := T) (F := d_refusal_of) (c_is_shop := g_is_shop) (c_first_fault := g_first_fault)
  have g_is_lead := k_is_lead (P := P) (w := w) (base := base) (D := cls_Drawing) (F := d_is_lead)
  have g_leads_of := k_leads_of (P := P) (w := w) (base := base) (T := T) (D := cls_Drawing) (F := d_leads_of) (c_is_lead := g_is_lead)
  have g_root_above := k_root_above (P := P) (w := w) (base := base) (F := d_root_above)
  have g_distance_above := k_distance_above (P := P) (w := w) (base := base) (F := d_distance_above) (c_root_above := g_root_above)
  have g_lengths_of := k_lengths_of (P := P) (w := w) (base := base) (D := cls_Drawing) (F := d_lengths_of) (c_leads_of := g_leads_of) (c_distance_above := g_distance_above)
  have g_lead_too_long := k_lead_too_long (P := P) (w := w) (base := base) (F := d_lead_too_long)
  have g_refusal_of_parting := k_refusal_of_parting (P := P) (w := w) (base := base) (F := d_refusal_of_parting) (c_refusal_of := g_refusal_of) (c_drawing_of := g_drawing_of) (c_lengths_of := g_lengths_of) (c_lead_too_long := g_lead_too_long)
  have g_leads_by_point := k_leads_by_point (P := P) (w := w) (base := base) (T := T) (D := cls_Drawing) (F := d_leads_by_point) (c_leads_of := g_leads_of)
  have g_on_frame := k_on_frame (P := P) (w := w) (base := base) (D := cls_Drawing) (F := d_on_frame)
  have g_other_end := k_other_end (P := P) (w := w) (base := base) (F := d_other_end)
  have g_onward := k_onward (P := P) (w := w) (base := base) (F := d_onward)
  have g_pairs_through := k_pairs_through (P := P) (w := w) (base := base) (T := T) (D := cls_Drawing) (F := d_pairs_through) (c_other_end := g_other_end) (c_turn := g_turn) (c_onward := g_onward)
  have g_joins_of := k_joins_of (P := P) (w := w) (base := base) (T := T) (D := cls_Drawing) (F := d_joins_of) (c_leads_by_point := g_leads_by_point) (c_on_frame := g_on_frame) (c_pairs_through := g_pairs_through)
  have g_walked := k_walked (P := P) (w := w) (base := base) (D := cls_Drawing) (F := d_walked) (c_other_end := g_other_end) (c_Strip := m_Strip)
  have g_strip_of_least := k_strip_of_least (P := P) (w := w) (base := base) (D := cls_Drawing) (D2 := cls_Strip) (F := d_strip_of_least) (c_walked := g_walked)
  have g_strips_of := k_strips_of (P := P) (w := w) (base := base) (D2 := cls_Strip) (F := d_strips_of) (c_leads_of := g_leads_of) (c_joins_of := g_joins_of) (c_strip_of_least := g_strip_of_least)
  have g_parted := k_parted (P := P) (w := w) (base := base) (T := T) (D2 := cls_Strip) (F := d_parted) (c_Piece := m_Piece)
  have g_pieces_of := k_pieces_of (P := P) (w := w) (base := base) (F := d_pieces_of) (c_lengths_of := g_lengths_of) (c_strips_of := g_strips_of) (c_parted := g_parted)
  exact k_pieces (T := T) (D3 := cls_Piece) (F := F0) (c_refusal_of_parting := g_refusal_of_parting) (c_drawing_of := g_drawing_of) (c_pieces_of := g_pieces_of)
end Hl
end PTab_pieces

section PRow_pieces
set_option Elab.async false
set_option linter.all false
set_option maxRecDepth 100000
set_option maxHeartbeats 4000000
namespace Hl
open PySem PySem.Spec PyProof.Rows L2 Evl
open GlaPlan (Pt Plan)
open GlaLead (LeadShop)
/-! ### what the row asks -/
theorem and6 {a b c d e f g : Bool} (h : (a && (b && (c && (d && (e && (f && g)))))) = true) : f = true := by
  simp only [Bool.and_eq_true] at h
  exact h.2.2.2.2.2.1
theorem nums_dw {K : PySem.W.Frag} {H : Hp} {xs : List V} {a b c d e : Int} {l : List Int} (hx : DwAll K H xs [.int a, .int b, .int c, .int d, .int e, .list (l.map PySem.W.WData.int)]) :
    ∃ p, xs = [.int a, .int b, .int c, .int d, .int e, .ref p] ∧ SqL K H p (l.map V.int) := by
  cases hx with
  | cons h1 hx =>
  cases hx with
  | cons h2 hx =>
  cases hx with
  | cons h3 hx =>
  cases hx with
  | cons h4 hx =>
  cases hx with
  | cons h5 hx =>
  cases hx with
  | cons h6 hx =>
  cases hx
  cases h1; cases h2; cases h3; cases h4; cases h5
  cases h6 with
  | lst hs ha =>
    have e := L2.ints_dw l _ ha
    subst e
    exact ⟨_, rfl, hs⟩
theorem byV_of (b : List UInt8) : byV b = (b.map fun (x : UInt8) => (x.toNat : Int)).map V.int := by rw [byV, List.map_map]; rfl
theorem pieces_due {a b bar joint loss : Int} {c : List Int} (h : PyYqglca.pieces_asked a b bar joint loss c = true) :
    ∃ (s : LeadShop) (p : List UInt8), (a = (s.a : Int) ∧ b = (s.b : Int) ∧ bar = (s.bar : Int) ∧ joint = (s.joint : Int) ∧ loss = (s.loss : Int)) ∧ c = p.map (fun (x : UInt8) => (x.toNat : Int)) ∧ GlaBase.num p 12 2 ≤ 200 ∧ PyYqglca.pieces a b bar joint loss c = piecesV s p := by
  rw [PyYqglca.pieces_asked, Neutral.asked] at h
  simp only [List.all_cons, List.all_nil, Bool.and_true, Bool.and_eq_true, Neutral.asked1] at h
  obtain ⟨_, ⟨h1, h2⟩, h3⟩ := h
  have hr : ∀ z ∈ c, 0 ≤ z ∧ z < 256 := by
    intro z hz
    have := List.all_eq_true.1 h1 z hz
    rw [Neutral.natural, Bool.and_eq_true, decide_eq_true_eq, decide_eq_true_eq] at this
    exact this
  rw [Neutral.fits] at h3
  cases hc : Neutral.callOf [[2, a, b, bar, joint, loss], c] with
  | none => rw [hc] at h3; cases h3
  | some x =>
    rw [hc] at h3
    have hc0 := hc
    simp only [Neutral.callOf, bind, Option.bind_eq_some_iff] at hc
    obtain ⟨p, hp, s, hs, hx⟩ := hc
    obtain rfl := Option.some.inj hx
    refine ⟨s, p, shop_some hs, bytes_some hr hp, ?_, ?_⟩
    · have : Neutral.few p = true := by simpa [Neutral.moderate] using h3
      exact of_decide_eq_true this
    · rw [PyYqglca.pieces, Neutral.f, hc0]
      exact pieces_told s p
theorem row_S (K : PySem.W.Frag) (H : Hp) (xs : List V) (a : PySem.W.Codec.denoteAll PySem.Challenge.rw_leadstrips_s02_pieces.args) (hwi : PySem.W.Codec.withinAll PySem.Challenge.rw_leadstrips_s02_pieces.args a = true)
    (hask : PySem.W.Codec.app PySem.Challenge.rw_leadstrips_s02_pieces.args PySem.Challenge.rw_leadstrips_s02_pieces.asked a = true) (hx : DwAll K H xs (PySem.W.Codec.encAll PySem.Challenge.rw_leadstrips_s02_pieces.args a)) :
    spR (Aps K) xs H (fun v H' => Dw K H' v (PySem.Challenge.rw_leadstrips_s02_pieces.ret.enc (PySem.W.Codec.app PySem.Challenge.rw_leadstrips_s02_pieces.args PySem.Challenge.rw_leadstrips_s02_pieces.f a))) fun _ _ _ => False := by
  obtain ⟨a1, a2, a3, a4, a5, l, u⟩ := a
  have hl : l.length ≤ 100000 := by
    have h := and6 hwi
    have h2 : (PySem.W.Codec.inLen 0 100000 l && l.all _) = true := h
    have h3 := (Bool.and_eq_true _ _).mp h2 |>.1
    simpa [PySem.W.Codec.inLen, PySem.W.Codec.inNat] using h3
  obtain ⟨s, b, ⟨rfl, rfl, rfl, rfl, rfl⟩, rfl, few, hf⟩ := pieces_due (a := a1) (b := a2) (bar := a3) (joint := a4) (loss := a5) (c := l) hask
  obtain ⟨p, rfl, hs⟩ := nums_dw hx
  have hb : b.length ≤ 100000 := by simpa using hl
  refine ⟨_, ⟨s, .ref p, b, rfl, ⟨by omega, p, rfl, by rw [byV_of]; exact hs⟩, fun h => pre2_of few h, rfl⟩, ?_⟩
  rintro v H' e ⟨q, rfl, hq⟩
  have hd : Dw K H' (.ref q) (.list ((piecesV s b).map PySem.W.WData.int)) := .lst (SqL.of hq) (dw_ints _)
  rw [← hf] at hd
  exact hd
end Hl
end PRow_pieces

section PFin_pieces
set_option Elab.async false
set_option linter.all false
set_option maxRecDepth 100000
set_option maxHeartbeats 2000000
open PySem PySem.W PyProof.Rows
set_option maxRecDepth 100000 in
set_option maxHeartbeats 8000000 in
theorem PySem.Challenge.cw_leadstrips_s02_pieces_holds : PySem.Challenge.rw_leadstrips_s02_pieces.Holds := by
  w_on; k_headS; (case hw => exact ⟨[.int 0, .int 0, .int 0, .int 0, .int 0, .list []], by decide +kernel, by decide +kernel⟩)
  k_fillS
  refine L2.walk_specK (r := PySem.Challenge.rw_leadstrips_s02_pieces) (k := 10) (CX := L2.CX0) (ps := ["a", "b", "bar", "joint", "loss", "cartoon"]) (sp := fun K => Hl.spR (Hl.Aps K)) (by decide +kernel) rfl rfl ⟨rfl, by decide, by decide⟩ (fun w h Y => PySem.W.kIn_of Y) ?F ?S (fun _ _ _ _ z => z)
  case F =>
    intro w mg fa h Y KX G hmg
    refine' Hl.all_mk KX G hmg ?kp_HEAD_SIZE ?kp_POINT_SIZE ?kp_LINE_SIZE ?kp_MARK_SIZE ?kp_BEND_BITS ?kp_MOST_BYTES ?z_len ?z_abs ?z_range ?z_reversed ?z_enumerate ?z_zip ?z_sorted ?z_tuple ?a_number_at ?l_number_at ?c_number_at ?kp_number_at ?a_pair_at ?l_pair_at ?c_pair_at ?kp_pair_at ?a_lines_begin ?l_lines_begin ?c_lines_begin ?kp_lines_begin ?a_marks_begin ?l_marks_begin ?c_marks_begin ?kp_marks_begin ?a_asked_size ?l_asked_size ?c_asked_size ?kp_asked_size ?a_drawing_of ?l_drawing_of ?c_drawing_of ?kp_drawing_of ?a_point_place ?l_point_place ?c_point_place ?kp_point_place ?a_line_place ?l_line_place ?c_line_place ?kp_line_place ?a_mark_place ?l_mark_place ?c_mark_place ?kp_mark_place ?a_on_frame ?l_on_frame ?c_on_frame ?kp_on_frame ?a_other_end ?l_other_end ?c_other_end ?kp_other_end ?a_turn ?l_turn ?c_turn ?kp_turn ?a_onward ?l_onward ?c_onward ?kp_onward ?a_between ?l_between ?c_between ?kp_between ?a_lies_on ?l_lies_on ?c_lies_on ?kp_lies_on ?a_apart ?l_apart ?c_apart ?kp_apart ?a_cross ?l_cross ?c_cross ?kp_cross ?a_comes_behind ?l_comes_behind ?c_comes_behind ?kp_comes_behind ?a_is_lead ?l_is_lead ?c_is_lead ?kp_is_lead ?a_leads_of ?l_leads_of ?c_leads_of ?kp_leads_of ?a_leads_by_point ?l_leads_by_point ?c_leads_by_point ?kp_leads_by_point ?a_pairs_through ?l_pairs_through ?c_pairs_through ?kp_pairs_through ?a_joins_of ?l_joins_of ?c_joins_of ?kp_joins_of ?a_root_above ?l_root_above ?c_root_above ?kp_root_above ?a_distance_above ?l_distance_above ?c_distance_above ?kp_distance_above ?a_lengths_of ?l_lengths_of ?c_lengths_of ?kp_lengths_of ?a_walked ?l_walked ?c_walked ?kp_walked ?a_strip_of_least ?l_strip_of_least ?c_strip_of_least ?kp_strip_of_least ?a_strips_of ?l_strips_of ?c_strips_of ?kp_strips_of ?a_lead_too_long ?l_lead_too_long ?c_lead_too_long ?kp_lead_too_long ?a_parted ?l_parted ?c_parted ?kp_parted ?a_pieces_of ?l_pieces_of ?c_pieces_of ?kp_pieces_of ?a_neighbours_of ?l_neighbours_of ?c_neighbours_of ?kp_neighbours_of ?a_reached ?l_reached ?c_reached ?kp_reached ?a_parts_others ?l_parts_others ?c_parts_others ?kp_parts_others ?a_more_left ?l_more_left ?c_more_left ?kp_more_left ?a_leftmost ?l_leftmost ?c_leftmost ?kp_leftmost ?a_outline_from ?l_outline_from ?c_outline_from ?kp_outline_from ?a_twice_area ?l_twice_area ?c_twice_area ?kp_twice_area ?a_panes_of ?l_panes_of ?c_panes_of ?kp_panes_of ?a_surrounds ?l_surrounds ?c_surrounds ?kp_surrounds ?a_pane_at ?l_pane_at ?c_pane_at ?kp_pane_at ?a_sign_fault ?l_sign_fault ?c_sign_fault ?kp_sign_fault ?a_head_fault ?l_head_fault ?c_head_fault ?kp_head_fault ?a_size_fault ?l_size_fault ?c_size_fault ?kp_size_fault ?a_point_fault ?l_point_fault ?c_point_fault ?kp_point_fault ?a_line_fault ?l_line_fault ?c_line_fault ?kp_line_fault ?a_edge_rows ?l_edge_rows ?c_edge_rows ?kp_edge_rows ?a_frame_fault ?l_frame_fault ?c_frame_fault ?kp_frame_fault ?a_has_point_on_it ?l_has_point_on_it ?c_has_point_on_it ?kp_has_point_on_it ?a_crosses_one_of ?l_crosses_one_of ?c_crosses_one_of ?kp_crosses_one_of ?a_crossing_fault ?l_crossing_fault ?c_crossing_fault ?kp_crossing_fault ?a_loose_end_fault ?l_loose_end_fault ?c_loose_end_fault ?kp_loose_end_fault ?a_island_fault ?l_island_fault ?c_island_fault ?kp_island_fault ?a_hinge_fault ?l_hinge_fault ?c_hinge_fault ?kp_hinge_fault ?a_on_some_line ?l_on_some_line ?c_on_some_line ?kp_on_some_line ?a_mark_fault ?l_mark_fault ?c_mark_fault ?kp_mark_fault ?a_second_mark_fault ?l_second_mark_fault ?c_second_mark_fault ?kp_second_mark_fault ?a_bare_pane_fault ?l_bare_pane_fault ?c_bare_pane_fault ?kp_bare_pane_fault ?a_first_fault ?l_first_fault ?c_first_fault ?kp_first_fault ?a_is_shop ?l_is_shop ?c_is_shop ?kp_is_shop ?a_refusal_of ?l_refusal_of ?c_refusal_of ?kp_refusal_of ?a_refusal_of_parting ?l_refusal_of_parting ?c_refusal_of_parting ?kp_refusal_of_parting ?a_pieces ?l_pieces ?c_pieces ?kp_pieces ?a_Drawing ?i_Drawing ?y_Drawing ?l_Drawing ?c_Drawing ?kp_Drawing ?pg_Drawing ?hd_Drawing ?po_Drawing ?sa_Drawing ?mk_Drawing ?kc_Drawing ?n_Drawing_width ?n_Drawing_height ?n_Drawing_points ?n_Drawing_lines ?n_Drawing_marks ?a_Strip ?i_Strip ?y_Strip ?l_Strip ?c_Strip ?kp_Strip ?pg_Strip ?hd_Strip ?po_Strip ?sa_Strip ?mk_Strip ?kc_Strip ?n_Strip_leads ?n_Strip_points ?a_Piece ?i_Piece ?y_Piece ?l_Piece ?c_Piece ?kp_Piece ?pg_Piece ?hd_Piece ?po_Piece ?sa_Piece ?mk_Piece ?kc_Piece ?n_Piece_length ?n_Piece_points ?s1 ?s2 ?h1 ?h2 ?h3_0 ?h3_1 ?h3_2 ?h3_3 ?h3_4 ?h3_5 ?r1 ?r2 ?r3 ?r4
    (case kp_HEAD_SIZE => k_is)
    (case kp_POINT_SIZE => k_is)
    (case kp_LINE_SIZE => k_is)
    (case kp_MARK_SIZE => k_is)
    (case kp_BEND_BITS => k_is)
    (case kp_MOST_BYTES => k_is)
    (case z_len => k_is)
    (case z_abs => k_is)
    (case z_range => k_is)
    (case z_reversed => k_is)
    (case z_enumerate => k_is)
    (case z_zip => k_is)
    (case z_sorted => k_is)
    (case z_tuple => k_is)
    (case a_number_at => k_is)
    (case l_number_at => k_is)
    (case c_number_at => k_is)
    (case kp_number_at => k_is)
    (case a_pair_at => k_is)
    (case l_pair_at => k_is)
    (case c_pair_at => k_is)
    (case kp_pair_at => k_is)
    (case a_lines_begin => k_is)
    (case l_lines_begin => k_is)
    (case c_lines_begin => k_is)
    (case kp_lines_begin => k_is)
    (case a_marks_begin => k_is)
    (case l_marks_begin => k_is)
    (case c_marks_begin => k_is)
    (case kp_marks_begin => k_is)
    (case a_asked_size => k_is)
    (case l_asked_size => k_is)
    (case c_asked_size => k_is)
    (case kp_asked_size => k_is)
    (case a_drawing_of => k_is)
    (case l_drawing_of => k_is)
    (case c_drawing_of => k_is)
    (case kp_drawing_of => k_is)
    (case a_point_place => k_is)
    (case l_point_place => k_is)
    (case c_point_place => k_is)
    (case kp_point_place => k_is)
    (case a_line_place => k_is)
    (case l_line_place => k_is)
    (case c_line_place => k_is)
    (case kp_line_place => k_is)
    (case a_mark_place => k_is)
    (case l_mark_place => k_is)
    (case c_mark_place => k_is)
    (case kp_mark_place => k_is)
    (case a_on_frame => k_is)
    (case l_on_frame => k_is)
    (case c_on_frame => k_is)
    (case kp_on_frame => k_is)
    (case a_other_end => k_is)
    (case l_other_end => k_is)
    (case c_other_end => k_is)
    (case kp_other_end => k_is)
    (case a_turn => k_is)
    (case l_turn => k_is)
    (case c_turn => k_is)
    (case kp_turn => k_is)
    (case a_onward => k_is)
    (case l_onward => k_is)
    (case c_onward => k_is)
    (case kp_onward => k_is)
    (case a_between => k_is)
    (case l_between => k_is)
    (case c_between => k_is)
    (case kp_between => k_is)
    (case a_lies_on => k_is)
    (case l_lies_on => k_is)
    (case c_lies_on => k_is)
    (case kp_lies_on => k_is)
    (case a_apart => k_is)
    (case l_apart => k_is)
    (case c_apart => k_is)
    (case kp_apart => k_is)
    (case a_cross => k_is)
    (case l_cross => k_is)
    (case c_cross => k_is)
    (case kp_cross => k_is)
    (case a_comes_behind => k_is)
    (case l_comes_behind => k_is)
    (case c_comes_behind => k_is)
    (case kp_comes_behind => k_is)
    (case a_is_lead => k_is)
    (case l_is_lead => k_is)
    (case c_is_lead => k_is)
    (case kp_is_lead => k_is)
    (case a_leads_of => k_is)
    (case l_leads_of => k_is)
    (case c_leads_of => k_is)
    (case kp_leads_of => k_is)
    (case a_leads_by_point => k_is)
    (case l_leads_by_point => k_is)
    (case c_leads_by_point => k_is)
    (case kp_leads_by_point => k_is)
    (case a_pairs_through => k_is)
    (case l_pairs_through => k_is)
    (case c_pairs_through => k_is)
    (case kp_pairs_through => k_is)
    (case a_joins_of => k_is)
    (case l_joins_of => k_is)
    (case c_joins_of => k_is)
    (case kp_joins_of => k_is)
    (case a_root_above => k_is)
    (case l_root_above => k_is)
    (case c_root_above => k_is)
    (case kp_root_above => k_is)
    (case a_distance_above => k_is)
    (case l_distance_above => k_is)
    (case c_distance_above => k_is)
    (case kp_distance_above => k_is)
    (case a_lengths_of => k_is)
    (case l_lengths_of => k_is)
    (case c_lengths_of => k_is)
    (case kp_lengths_of => k_is)
    (case a_walked => k_is)
    (case l_walked => k_is)
    (case c_walked => k_is)
    (case kp_walked => k_is)
    (case a_strip_of_least => k_is)
    (case l_strip_of_least => k_is)
    (case c_strip_of_least => k_is)
    (case kp_strip_of_least => k_is)
    (case a_strips_of => k_is)
    (case l_strips_of => k_is)
    (case c_strips_of => k_is)
    (case kp_strips_of => k_is)
    (case a_lead_too_long => k_is)
    (case l_lead_too_long => k_is)
    (case c_lead_too_long => k_is)
    (case kp_lead_too_long => k_is)
    (case a_parted => k_is)
    (case l_parted => k_is)
    (case c_parted => k_is)
    (case kp_parted => k_is)
    (case a_pieces_of => k_is)
    (case l_pieces_of => k_is)
    (case c_pieces_of => k_is)
    (case kp_pieces_of => k_is)
    (case a_neighbours_of => k_is)
    (case l_neighbours_of => k_is)
    (case c_neighbours_of => k_is)
    (case kp_neighbours_of => k_is)
    (case a_reached => k_is)
    (case l_reached => k_is)
    (case c_reached => k_is)
    (case kp_reached => k_is)
    (case a_parts_others => k_is)
    (case l_parts_others => k_is)
    (case c_parts_others => k_is)
    (case kp_parts_others => k_is)
    (case a_more_left => k_is)
    (case l_more_left => k_is)
    (case c_more_left => k_is)
    (case kp_more_left => k_is)
    (case a_leftmost => k_is)
    (case l_leftmost => k_is)
    (case c_leftmost => k_is)
    (case kp_leftmost => k_is)
    (case a_outline_from => k_is)
    (case l_outline_from => k_is)
    (case c_outline_from => k_is)
    (case kp_outline_from => k_is)
    (case a_twice_area => k_is)
    (case l_twice_area => k_is)
    (case c_twice_area => k_is)
    (case kp_twice_area => k_is)
    (case a_panes_of => k_is)
    (case l_panes_of => k_is)
    (case c_panes_of => k_is)
    (case kp_panes_of => k_is)
    (case a_surrounds => k_is)
    (case l_surrounds => k_is)
    (case c_surrounds => k_is)
    (case kp_surrounds => k_is)
    (case a_pane_at => k_is)
    (case l_pane_at => k_is)
    (case c_pane_at => k_is)
    (case kp_pane_at => k_is)
    (case a_sign_fault => k_is)
    (case l_sign_fault => k_is)
    (case c_sign_fault => k_is)
    (case kp_sign_fault => k_is)
    (case a_head_fault => k_is)
    (case l_head_fault => k_is)
    (case c_head_fault => k_is)
    (case kp_head_fault => k_is)
    (case a_size_fault => k_is)
    (case l_size_fault => k_is)
    (case c_size_fault => k_is)
    (case kp_size_fault => k_is)
    (case a_point_fault => k_is)
    (case l_point_fault => k_is)
    (case c_point_fault => k_is)
    (case kp_point_fault => k_is)
    (case a_line_fault => k_is)
    (case l_line_fault => k_is)
    (case c_line_fault => k_is)
    (case kp_line_fault => k_is)
    (case a_edge_rows => k_is)
    (case l_edge_rows => k_is)
    (case c_edge_rows => k_is)
    (case kp_edge_rows => k_is)
    (case a_frame_fault => k_is)
    (case l_frame_fault => k_is)
    (case c_frame_fault => k_is)
    (case kp_frame_fault => k_is)
    (case a_has_point_on_it => k_is)
    (case l_has_point_on_it => k_is)
    (case c_has_point_on_it => k_is)
    (case kp_has_point_on_it => k_is)
    (case a_crosses_one_of => k_is)
    (case l_crosses_one_of => k_is)
    (case c_crosses_one_of => k_is)
    (case kp_crosses_one_of => k_is)
    (case a_crossing_fault => k_is)
    (case l_crossing_fault => k_is)
    (case c_crossing_fault => k_is)
    (case kp_crossing_fault => k_is)
    (case a_loose_end_fault => k_is)
    (case l_loose_end_fault => k_is)
    (case c_loose_end_fault => k_is)
    (case kp_loose_end_fault => k_is)
    (case a_island_fault => k_is)
    (case l_island_fault => k_is)
    (case c_island_fault => k_is)
    (case kp_island_fault => k_is)
    (case a_hinge_fault => k_is)
    (case l_hinge_fault => k_is)
    (case c_hinge_fault => k_is)
    (case kp_hinge_fault => k_is)
    (case a_on_some_line => k_is)
    (case l_on_some_line => k_is)
    (case c_on_some_line => k_is)
    (case kp_on_some_line => k_is)
    (case a_mark_fault => k_is)
    (case l_mark_fault => k_is)
    (case c_mark_fault => k_is)
    (case kp_mark_fault => k_is)
    (case a_second_mark_fault => k_is)
    (case l_second_mark_fault => k_is)
    (case c_second_mark_fault => k_is)
    (case kp_second_mark_fault => k_is)
    (case a_bare_pane_fault => k_is)
    (case l_bare_pane_fault => k_is)
    (case c_bare_pane_fault => k_is)
    (case kp_bare_pane_fault => k_is)
    (case a_first_fault => k_is)
    (case l_first_fault => k_is)
    (case c_first_fault => k_is)
    (case kp_first_fault => k_is)
    (case a_is_shop => k_is)
    (case l_is_shop => k_is)
    (case c_is_shop => k_is)
    (case kp_is_shop => k_is)
    (case a_refusal_of => k_is)
    (case l_refusal_of => k_is)
    (case c_refusal_of => k_is)
    (case kp_refusal_of => k_is)
    (case a_refusal_of_parting => k_is)
    (case l_refusal_of_parting => k_is)
    (case c_refusal_of_parting => k_is)
    (case kp_refusal_of_parting => k_is)
    (case a_pieces => k_is)
    (case l_pieces => k_is)
    (case c_pieces => k_is)
    (case kp_pieces => k_is)
    (case a_Drawing => k_is)
    (case i_Drawing => k_is)
    (case y_Drawing => k_is)
    (case l_Drawing => k_is)
    (case c_Drawing => k_is)
    (case kp_Drawing => k_is)
    (case pg_Drawing => k_is)
    (case hd_Drawing => k_is)
    (case po_Drawing => k_is)
    (case sa_Drawing => k_is)
    (case mk_Drawing => k_is)
    (case kc_Drawing => k_is)
    (case n_Drawing_width => k_is)
    (case n_Drawing_height => k_is)
    (case n_Drawing_points => k_is)
    (case n_Drawing_lines => k_is)
    (case n_Drawing_marks => k_is)
    (case a_Strip => k_is)
    (case i_Strip => k_is)
    (case y_Strip => k_is)
    (case l_Strip => k_is)
    (case c_Strip => k_is)
    (case kp_Strip => k_is)
    (case pg_Strip => k_is)
    (case hd_Strip => k_is)
    (case po_Strip => k_is)
    (case sa_Strip => k_is)
    (case mk_Strip => k_is)
    (case kc_Strip => k_is)
    (case n_Strip_leads => k_is)
    (case n_Strip_points => k_is)
    (case a_Piece => k_is)
    (case i_Piece => k_is)
    (case y_Piece => k_is)
    (case l_Piece => k_is)
    (case c_Piece => k_is)
    (case kp_Piece => k_is)
    (case pg_Piece => k_is)
    (case hd_Piece => k_is)
    (case po_Piece => k_is)
    (case sa_Piece => k_is)
    (case mk_Piece => k_is)
    (case kc_Piece => k_is)
    (case n_Piece_length => k_is)
    (case n_Piece_points => k_is)
    (case s1 => k_is)
    (case s2 => k_is)
    (case h1 => k_is)
    (case h2 => k_is)
    (case h3_0 => k_is)
    (case h3_1 => k_is)
    (case h3_2 => k_is)
    (case h3_3 => k_is)
    (case h3_4 => k_is)
    (case h3_5 => k_is)
    (case r1 => k_is)
    (case r2 => k_is)
    (case r3 => k_is)
    (case r4 => k_is)
  case S => exact fun K H xs a _ hwi hask hx => Hl.row_S K H xs a hwi hask hx
#print axioms PySem.Challenge.cw_leadstrips_s02_pieces_holds
end PFin_pieces
