import PyProof.Rows.All
import Wide.All
import OpenK.AllK
import Wide.FinOn
import Open.SpecLaws
import KE.OsHead
import KE.OsGo
import HandS.ForSpec
import HandS.Comp
import HandS.Dict
import HandS.Iter
import HandS.Walk
import HandS.Zip
import HandS.Wide
import HandS.WideBits
import HandS.Evl
import HandS.TupLe
import GlaPlan
import PySem.Challenge.RW_leadstrips_s06_root
section PHl0
set_option Elab.async false
set_option linter.all false
set_option maxRecDepth 100000
set_option maxHeartbeats 2000000
namespace Hl
open PySem PySem.Spec PyProof.Rows L2 Evl

/-- a def that may be called by its name -/
structure Cal (P : Program) (w : World) (K : PySem.W.Frag) (mg : Str → Option Value) (base : Heap) (k : Nat) (x : Str) (sp : Sp) : Prop where
  ex : ∃ (f : Addr) (fd : FuncData) (ps : List Str), FnOk P w K mg base CX0 k f fd ps sp ∧ mg x = some (.ref f) ∧ PySem.W.keepIn K (.ref f) = true ∧ Binds K fd ps []
/-- a def of the module as it stands -/
structure Dfn (K : PySem.W.Frag) (mg : Str → Option Value) (x : Str) (st : Stmt) (ps : List Str) : Prop where
  ex : ∃ (f : Addr) (fd : FuncData), Fun K x x st f fd ∧ mg x = some (.ref f) ∧ PySem.W.keepIn K (.ref f) = true ∧ Binds K fd ps []

section
variable {X : Cx} {k j : Nat} {x : Str} {sp : Sp} {p pos : Pos} {e : Expr} {es : List Expr} {t : TA}
theorem pe_c (c : Cal X.prog X.w X.K X.mg X.base k x sp) (hr : Room j X.A) (hk : k ≤ j) (hg : Gl X x) (ha : PA X (e :: es) t)
    (hdb : (x == ("__debug__" : Str)) = false := by decide) (he : starEach (e :: es) X.env = (false, eval e X.env) :: starEach es X.env := by rfl) (hpl : (backTo pos (starEach es X.env)).any (·.1) = false := by rfl) :
    PE X (.Call (.Name x p) (e :: es) [] pos) (tCall sp [] E0 t) := by
  obtain ⟨f, fd, ps, F, hm, kp, b⟩ := c.ex
  exact pe_call F (hr.mono hk) hg hm kp b .nil pass0 ha hdb he hpl
theorem pe_gc {v : V} (hg : Gl X x) (h : ∃ u, X.mg x = some u ∧ RelV v u) (hd : (x == ("__debug__" : Str)) = false := by decide) : PE X (.Name x pos) (tC v) := by
  obtain ⟨u, hm, r⟩ := h
  exact pe_glob hg hm r hd
end

/-! ### what a call hands back -/
def EvR (te : TE) (σ : L2.St) (H : Hp) (R : V → Hp → Prop) : Prop := ∀ H1, Ex H H1 → ∀ Q : VK, (∀ v H2, Ex H1 H2 → R v H2 → Q v H2) → te σ H1 Q
def spV (A : List V → Hp → V → Prop) : Sp := fun vs H Q _ => ∃ v, A vs H v ∧ ∀ H', Ex H H' → Q v H'
def spR (A : List V → Hp → (V → Hp → Prop) → Prop) : Sp := fun vs H Q _ => ∃ R, A vs H R ∧ ∀ v H', Ex H H' → R v H' → Q v H'
/-- what stands in a heap stands in a larger one -/
def Mono {α : Sort _} (A : List V → Hp → α → Prop) : Prop := ∀ vs H H' v, Ex H H' → A vs H v → A vs H' v

section
variable {K : PySem.W.Frag} {σ : L2.St} {H H' : Hp} {ta tb te : TE} {tr : TA} {v : V} {vs : List V} {R : V → Hp → Prop}
theorem spv {A : List V → Hp → V → Prop} (m : Mono A) (h : A vs H v) : SpV (spV A) vs H v := fun H1 e Q q _ => ⟨v, m _ _ _ _ e h, fun H2 e2 => q H2 e2⟩
theorem ev_callV {A : List V → Hp → V → Prop} (m : Mono A) (h : EvA tr σ H vs) (a : A vs H v) : Ev (tCall (spV A) [] E0 tr) σ H v :=
  ev_call h (by rw [List.append_nil]; exact spv m a)
theorem er_callR {A : List V → Hp → (V → Hp → Prop) → Prop} (m : Mono A) (h : EvA tr σ H vs) (a : A vs H R) : EvR (tCall (spR A) [] E0 tr) σ H R := fun H1 e Q q =>
  h H1 e _ fun H2 e2 => by
    rw [List.append_nil]
    exact ⟨R, m _ _ _ _ (e.trans e2) a, fun v H3 e3 r => q v H3 (e2.trans e3) r⟩
theorem EvR.mono (e : Ex H H') (h : EvR te σ H R) : EvR te σ H' R := fun H1 a Q q => h H1 (e.trans a) Q q
theorem er_ev (h : Ev te σ H v) (r : ∀ H', Ex H H' → R v H') : EvR te σ H R := fun H1 e Q q => h H1 e Q fun H2 e2 => q v H2 e2 (r H2 (e.trans e2))
end

/-- the promise of a def that gives a value, by its body -/
theorem mk_V {P : Program} {w : World} {K : PySem.W.Frag} {mg : Str → Option Value} {base : Heap} {x : Str} {st : Stmt} {N ps : List Str} {k : Nat} {A : List V → Hp → V → Prop} (F : Dfn K mg x st ps) (S : FnScope N ps (defScope st)) (len : ∀ vs H v, A vs H v → vs.length = ps.length)
    (hbody : ∀ (f : Addr) (cdv : Value) (A' : Around) (outer : List Env) (s : Shared) (H : Hp) (vs : List V) (E : XK) (v : V), Room k (A'.deeper (envOfC x (defScope st) s.heap.objs.size f cdv)) → A vs H v →
      ∃ t, PSs (cxOf CX0 P w K mg base N x (defScope st) f cdv A' outer s H E).nox (defBody st) t ∧ ∀ (Q : VK), (∀ H', Ex H H' → Q v H') → t { nx := fun _ H' => Q .non H', rt := Q } (start N vs) H) : Cal P w K mg base (k + 1) x (spV A) := by
  obtain ⟨f, fd, F, hm, kp, b⟩ := F.ex
  refine ⟨f, fd, ps, F.ok S (fun vs H Q E h => ?_) (fun cdv A' outer s H vs Q E hr h => ?_), hm, kp, b⟩
  · obtain ⟨v, a, _⟩ := h
    exact len vs H v a
  · obtain ⟨v, a, q⟩ := h
    obtain ⟨t, h1, h2⟩ := hbody f cdv A' outer s H vs E v hr a
    exact ⟨t, h1, h2 Q q⟩
theorem mk_R {P : Program} {w : World} {K : PySem.W.Frag} {mg : Str → Option Value} {base : Heap} {x : Str} {st : Stmt} {N ps : List Str} {k : Nat} {A : List V → Hp → (V → Hp → Prop) → Prop} (F : Dfn K mg x st ps) (S : FnScope N ps (defScope st)) (len : ∀ vs H v, A vs H v → vs.length = ps.length)
    (hbody : ∀ (f : Addr) (cdv : Value) (A' : Around) (outer : List Env) (s : Shared) (H : Hp) (vs : List V) (E : XK) (R : V → Hp → Prop), Room k (A'.deeper (envOfC x (defScope st) s.heap.objs.size f cdv)) → A vs H R →
      ∃ t, PSs (cxOf CX0 P w K mg base N x (defScope st) f cdv A' outer s H E).nox (defBody st) t ∧ ∀ (Q : VK), (∀ v H', Ex H H' → R v H' → Q v H') → t { nx := fun _ H' => Q .non H', rt := Q } (start N vs) H) : Cal P w K mg base (k + 1) x (spR A) := by
  obtain ⟨f, fd, F, hm, kp, b⟩ := F.ex
  refine ⟨f, fd, ps, F.ok S (fun vs H Q E h => ?_) (fun cdv A' outer s H vs Q E hr h => ?_), hm, kp, b⟩
  · obtain ⟨v, a, _⟩ := h
    exact len vs H v a
  · obtain ⟨v, a, q⟩ := h
    obtain ⟨t, h1, h2⟩ := hbody f cdv A' outer s H vs E v hr a
    exact ⟨t, h1, h2 Q q⟩

/-! ### what stands for what -/
def isPt (K : PySem.W.Frag) (p : GlaPlan.Pt) (v : V) (H : Hp) : Prop := (p.x < 4294967296 ∧ p.y < 4294967296) ∧ ∃ a, v = .ref a ∧ SqT K H a [.int p.x, .int p.y]
def isPr (K : PySem.W.Frag) (l : Nat × Nat) (v : V) (H : Hp) : Prop := ∃ a, v = .ref a ∧ H a = some (.tup [.int l.1, .int l.2])
theorem isPt.mono {K : PySem.W.Frag} {p : GlaPlan.Pt} {v : V} {H H' : Hp} (e : Ex H H') (h : isPt K p v H) : isPt K p v H' := ⟨h.1, h.2.imp fun a h => ⟨h.1, ex_t e h.2⟩⟩
theorem isPr.mono {K : PySem.W.Frag} {p : Nat × Nat} {v : V} {H H' : Hp} (e : Ex H H') (h : isPr K p v H) : isPr K p v H' := h.imp fun a h => ⟨h.1, e _ _ h.2⟩
theorem at0 {x y : V} : atI [x, y] 0 = some x := rfl
theorem at1 {x y : V} : atI [x, y] 1 = some y := rfl

section
variable {K : PySem.W.Frag} {σ : L2.St} {H : Hp} {ta tb te : TE} {v x y : V} {i j : Int} {p : Addr} {xs : List V}
theorem ev_I0 {g : Int → Int → V} (ha : Ev ta σ H (.int i)) (hb : Ev tb σ H (.int j)) : Ev (tOp (rI0 g) ta tb) σ H (g i j) := ev_op ha hb rv_I0
theorem ev_I {C : Int → Int → Prop} {g : Int → Int → V} (ha : Ev ta σ H (.int i)) (hb : Ev tb σ H (.int j)) (hc : C i j) : Ev (tOp (rI C g) ta tb) σ H (g i j) := ev_op ha hb (rv_I hc)
theorem ev_ixT (ha : Ev ta σ H (.ref p)) (hb : Ev tb σ H (.int i)) (h : SqT K H p xs) (e : atI xs i = some v) : Ev (tOp (rIxT K) ta tb) σ H v := ev_op ha hb (rv_ixT h e)
theorem ev_ixL (ha : Ev ta σ H (.ref p)) (hb : Ev tb σ H (.int i)) (h : SqL K H p xs) (e : atI xs i = some v) : Ev (tOp (rIxL K) ta tb) σ H v := ev_op ha hb (rv_ixL h e)
theorem ev_eq (ha : Ev ta σ H x) (hb : Ev tb σ H y) (h : scal x y = true) : Ev (tOp rEq ta tb) σ H (.bl (decide (x = y))) := ev_op ha hb (rv_eq h)
theorem ev_ne (ha : Ev ta σ H x) (hb : Ev tb σ H y) (h : scal x y = true) : Ev (tOp rNe ta tb) σ H (.bl (!decide (x = y))) := ev_op ha hb (rv_ne h)
end

end Hl

namespace Hl
open PySem PySem.Spec PyProof.Rows L2 Evl
section
variable {K : PySem.W.Frag} {σ : L2.St} {H : Hp} {ta tb te : TE} {v x y : V} {i j : Int} {p : Addr} {xs : List V}
/-- x in (a, b): a new pair of flat things, written -/
theorem ev_inU {es : List V} {tr : TA} (ha : Ev ta σ H x) (hb : EvA tr σ H es) (hl : es.length ≤ 100000) (hx : flatV x = true) (hf : es.all flatV = true) : Ev (tOp (rIn K false) ta (tTup tr)) σ H (.bl (inV x es)) := Evl.ev_inU ha (eu_tup hb hl) hx hf
theorem ev_fld {C dx : Addr} {fs : List (Str × V)} {f : Str} (ha : Ev ta σ H (.ref p)) (ho : H p = some (.ins C dx fs)) (hc : Cls K C) (hn : NoAttr K C f) (hl : fs.lookup f = some v) : Ev (tFld K ta f) σ H v := fun H1 e Q q =>
  ha H1 e _ fun H2 e2 => ⟨p, C, dx, fs, v, rfl, e2 _ _ (e _ _ ho), hc, hn, hl, q H2 e2⟩
theorem ev_lenL (ha : Ev ta σ H (.ref p)) (h : SqL K H p xs) : Ev (tCB (rLenS K) (tCons ta tNil)) σ H (.int (xs.length : Int)) := fun H1 e Q q =>
  ha H1 e _ fun H2 e2 => ⟨p, xs, rfl, .inl (ex_l (e.trans e2) h), q H2 e2⟩
/-- a chain of two comparisons of whole numbers -/
theorem ev_chain {g g' : Int → Int → Bool} {tc : TE} {k : Int} (ha : Ev ta σ H (.int i)) (hb : Ev tb σ H (.int j)) (hc : g i j = true → Ev tc σ H (.int k)) :
    Ev (tChain (rI0 fun i j => .bl (g i j)) (rI0 fun i j => .bl (g' i j)) ta tb tc) σ H (.bl (g i j && g' j k)) := fun H1 e Q q =>
  ha H1 e _ fun H2 e2 => hb H2 (e.trans e2) _ fun H3 e3 => ⟨i, j, rfl, rfl, g i j, rfl, by
    cases h : g i j with
    | true =>
      rw [if_pos rfl]
      exact hc h H3 ((e.trans e2).trans e3) _ fun H4 e4 => ⟨j, k, rfl, rfl, by
        have z := q H4 ((e2.trans e3).trans e4)
        rw [h] at z
        simpa using z⟩
    | false =>
      rw [if_neg Bool.false_ne_true]
      have z := q H3 (e2.trans e3)
      rw [h] at z
      simpa using z⟩
theorem lookI {a : Int} {l : List Int} : (l.map V.int).all flatV = true := by
  simp [flatV]
theorem eqV_int (a b : Int) : eqV (.int a) (.int b) = decide (a = b) := by
  unfold eqV
  rw [Bool.eq_iff_iff]; simp
theorem inV_two (x a b : Int) : inV (.int x) [.int a, .int b] = (decide (a = x) || decide (b = x)) := by
  unfold inV; simp [eqV_int]
end
theorem cut_nat (xs : List V) (p q : Nat) : cutV xs (some (p : Int)) (some (q : Int)) = (xs.drop p).take (q - p) := by
  unfold cutV
  rw [HT.sIx_nat, HT.sIx_nat]
  rcases Nat.le_total p xs.length with h | h
  · rw [Nat.min_eq_left h]
    rcases Nat.le_total q xs.length with h2 | h2
    · rw [Nat.min_eq_left h2]
    · rw [Nat.min_eq_right h2, List.take_of_length_le (by rw [List.length_drop]; omega), List.take_of_length_le (by rw [List.length_drop]; omega)]
  · rw [Nat.min_eq_right h, List.drop_eq_nil_of_le (Nat.le_refl _), List.drop_eq_nil_of_le h]; simp
theorem cut_from (xs : List V) (p : Nat) : cutV xs (some (p : Int)) none = xs.drop p := by
  unfold cutV
  rw [HT.sIx_nat, HT.sIx_none]
  rcases Nat.le_total p xs.length with h | h
  · rw [Nat.min_eq_left h, List.take_of_length_le (by rw [List.length_drop]; omega)]
  · rw [Nat.min_eq_right h, List.drop_eq_nil_of_le (Nat.le_refl _), List.drop_eq_nil_of_le h]; simp
theorem cut_to (xs : List V) (q : Nat) : cutV xs none (some (q : Int)) = xs.take q := by
  unfold cutV
  rw [HT.sIx_nat, HT.sIx_none]
  rcases Nat.le_total q xs.length with h | h
  · rw [Nat.min_eq_left h]; simp
  · rw [Nat.min_eq_right h]; simp [List.take_of_length_le h]
end Hl
namespace Hl
open PySem PySem.Spec PyProof.Rows L2 Evl
section
variable {σ : L2.St} {H : Hp} {D : Ends} {tu tz : TS} {g : TG} {wi : TI}
theorem s_forIt (n : Nat) (Y : Nat → Hp → V → Hp → Prop) (Pv : Nat → L2.St → Hp → Prop)
    (hw : ∀ R : It → Hp → Prop, (∀ J G H1, Walk J n G Y → Pv 0 σ H1 → (∀ i σ H, i ≤ n → Pv i σ H → G H) → R J H1) → wi σ H R)
    (hs : ∀ i x σ' H' H'', i < n → Pv i σ' H' → Y i H' x H'' → g x σ' H'' fun σ2 H2 => tu { D with nx := Pv (i + 1), ct := Pv (i + 1), bk := D.nx } σ2 H2)
    (hd : ∀ σ' H', Pv n σ' H' → D.nx σ' H') : tFor wi g tu D σ H :=
  hw _ fun J G H1 w p0 hG => for_it w Pv p0 hG hs hd
theorem q_forIt (n : Nat) (Y : Nat → Hp → V → Hp → Prop) (Pv : Nat → L2.St → Hp → Prop)
    (hw : ∀ R : It → Hp → Prop, (∀ J G H1, Walk J n G Y → Pv 0 σ H1 → (∀ i σ H, i ≤ n → Pv i σ H → G H) → R J H1) → wi σ H R)
    (hs : ∀ i x σ' H' H'', i < n → Pv i σ' H' → Y i H' x H'' → g x σ' H'' fun σ2 H2 => tu { D with nx := Pv (i + 1), ct := Pv (i + 1), bk := tz D } σ2 H2)
    (hd : ∀ σ' H', Pv n σ' H' → tz D σ' H') : tSeq (tFor wi g tu) tz D σ H := s_forIt (D := { D with nx := tz D }) n Y Pv hw hs hd
end
end Hl
end PHl0

section PRl1
set_option Elab.async false
set_option linter.all false
set_option maxRecDepth 100000
set_option maxHeartbeats 2000000
namespace Hl
open PySem PySem.Spec PyProof.Rows L2 Evl
open PySem.SeqAt (EqAt)
/-- t > u of two pairs of whole numbers; t <= u -/
def rCmp2 (K : PySem.W.Frag) (g : Int → Int → Int → Int → Bool) : R2 := fun x y H Q => ∃ (a b : Addr) (i j k l : Int), x = .ref a ∧ y = .ref b ∧ SqT K H a [.int i, .int j] ∧ SqT K H b [.int k, .int l] ∧ Q (.bl (g i j k l)) H
theorem op_gt2 {X : Cx} (hu : X.A.units < cLine) : OpR X (compareOp .Gt) (rCmp2 X.K fun i j k l => decide (k < i) || (decide (i = k) && decide (l < j))) := by
  intro pins s σ H x y v u Q I rx ry h
  obtain ⟨a, b, i, j, k, l, rfl, rfl, ha, hb, q⟩ := h
  cases rx
  cases ry
  have ha : SqT X.K H a (([i, j] : List Int).map V.int) := ha
  have hb : SqT X.K H b (([k, l] : List Int).map V.int) := hb
  generalize hns : ([i, j] : List Int) = ns at ha
  generalize hms : ([k, l] : List Int) = ms at hb
  obtain ⟨its, r1, p1, _⟩ := I.tuple ha
  obtain ⟨its2, r2, p2, _⟩ := I.tuple hb
  have i1 : IntsAre its ns := Vals.ints r1
  have i2 : IntsAre its2 ms := Vals.ints r2
  have e1 : its.toArray.size = ns.length := by rw [List.size_toArray]; exact i1.length
  have e2 : its2.toArray.size = ms.length := by rw [List.size_toArray]; exact i2.length
  have at1 : ∀ j (h1 : j < its.toArray.size), ∃ t, its.toArray[j] = .int (ns.getD j 0) t := fun j h1 => PyProof.Rows.IntsAre.int_at i1 _ _ (by simp at h1; simp [h1])
  have at2 : ∀ j (h1 : j < its2.toArray.size), ∃ t, its2.toArray[j] = .int (ms.getD j 0) t := fun j h1 => PyProof.Rows.IntsAre.int_at i2 _ _ (by simp at h1; simp [h1])
  have R := Ob.RcOp.tuples_gt (A := X.A) (s := s) (e := fun j => decide (ns.getD j 0 = ms.getD j 0)) (r := fun j => decide (ms.getD j 0 < ns.getD j 0)) p1 p2 hu (fun j h1 h2 => by
    obtain ⟨t, et⟩ := at1 j h1
    obtain ⟨t', et'⟩ := at2 j h2
    rw [et, et']
    have z : (ns.getD j 0 == ms.getD j 0) = decide (ns.getD j 0 = ms.getD j 0) := by
      by_cases q : ns.getD j 0 = ms.getD j 0
      · rw [decide_eq_true q]; exact beq_iff_eq.mpr q
      · rw [decide_eq_false q]; exact beq_eq_false_iff_ne.mpr q
    rw [← z]
    exact SeqAt.EqAt.int_int _ _ _ _) (fun j h1 h2 _ => by
    obtain ⟨t, et⟩ := at1 j h1
    obtain ⟨t', et'⟩ := at2 j h2
    rw [et, et']
    exact Ob.RcOp.gt_int _ _ _ _)
  rw [e1, e2] at R
  have z : wpAny (model X.prog X.w) X.A (compareOp .Gt (.ref a) (.ref b)) (EP X pins σ Q) X.xe s := R X.prog X.w X.xe (EP X pins σ Q) ⟨.bl _, H, I, rfl, by
    subst hns hms
    have e : Ob.lexAt (fun x => decide (([i, j] : List Int).getD x 0 = ([k, l] : List Int).getD x 0)) (fun x => decide (([k, l] : List Int).getD x 0 < ([i, j] : List Int).getD x 0)) (decide (([k, l] : List Int).length < ([i, j] : List Int).length)) 0 (min ([i, j] : List Int).length ([k, l] : List Int).length) = (decide (k < i) || (decide (i = k) && decide (l < j))) := by
      show (if decide (i = k) = true then (if decide (j = l) = true then decide (2 < 2) else decide (l < j)) else decide (k < i)) = _
      by_cases h1 : i = k
      · by_cases h2 : j = l
        · simp [h1, h2]
        · simp [h1, h2]
      · simp [h1]
    first | (rw [e]; exact q) | (have q' := q; rw [← e] at q'; exact q')⟩
  exact z
theorem op_lt2 {X : Cx} (hu : X.A.units < cLine) : OpR X (compareOp .Lt) (rCmp2 X.K fun i j k l => decide (i < k) || (decide (i = k) && decide (j < l))) := by
  intro pins s σ H x y v u Q I rx ry h
  obtain ⟨a, b, i, j, k, l, rfl, rfl, ha, hb, q⟩ := h
  refine op_ltT hu pins s σ H _ _ v u Q I rx ry ⟨a, b, [i, j], [k, l], rfl, rfl, ha, hb, ?_⟩
  have e : HT.lexLt [i, j] [k, l] = (decide (i < k) || (decide (i = k) && decide (j < l))) := by
    simp only [HT.lexLt]
    by_cases h1 : i = k
    · by_cases h2 : j = l
      · simp [h1, h2]
      · simp [h1, h2]
    · simp [h1]
  rw [e]; exact q
theorem op_le2 {X : Cx} (hu : X.A.units < cLine) : OpR X (compareOp .LtE) (rCmp2 X.K fun i j k l => decide (i < k) || (decide (i = k) && decide (j ≤ l))) := by
  intro pins s σ H x y v u Q I rx ry h
  obtain ⟨a, b, i, j, k, l, rfl, rfl, ha, hb, q⟩ := h
  refine op_leT hu pins s σ H _ _ v u Q I rx ry ⟨a, b, [i, j], [k, l], rfl, rfl, ha, hb, ?_⟩
  have e : Ob.lexAt (fun x => decide (([i, j] : List Int).getD x 0 = ([k, l] : List Int).getD x 0)) (fun x => decide (([i, j] : List Int).getD x 0 ≤ ([k, l] : List Int).getD x 0)) (decide (([i, j] : List Int).length ≤ ([k, l] : List Int).length)) 0 (min ([i, j] : List Int).length ([k, l] : List Int).length) = (decide (i < k) || (decide (i = k) && decide (j ≤ l))) := by
    show (if decide (i = k) = true then (if decide (j = l) = true then decide (2 ≤ 2) else decide (j ≤ l)) else decide (i ≤ k)) = _
    by_cases h1 : i = k
    · by_cases h2 : j = l
      · simp [h1, h2]
      · simp [h1, h2]
    · simp [h1]; omega
  rw [e]; exact q
section
variable {K : PySem.W.Frag} {σ : L2.St} {H : Hp} {ta tb te : TE}
theorem ev_cmp2UU {g : Int → Int → Int → Int → Bool} {i j k l : Int} (ha : EvU ta σ H [.int i, .int j]) (hb : EvU tb σ H [.int k, .int l]) : Ev (tOp (rCmp2 K g) ta tb) σ H (.bl (g i j k l)) :=
  ev_opUU ha hb fun p q H1 h1 h2 _ H2 e2 Q' q' => ⟨p, q, i, j, k, l, rfl, rfl, ex_t e2 (st_of h1), ex_t e2 (st_of h2), q' H2 (Ex.refl H2)⟩
theorem ev_cmp2 {g : Int → Int → Int → Int → Bool} {a b : Addr} {i j k l : Int} (ha : Ev ta σ H (.ref a)) (hb : Ev tb σ H (.ref b)) (h1 : SqT K H a [.int i, .int j]) (h2 : SqT K H b [.int k, .int l]) : Ev (tOp (rCmp2 K g) ta tb) σ H (.bl (g i j k l)) :=
  ev_op ha hb fun H2 e2 Q' q' => ⟨a, b, i, j, k, l, rfl, rfl, ex_t e2 h1, ex_t e2 h2, q' H2 (Ex.refl H2)⟩
end
end Hl
end PRl1

section PSr0
set_option Elab.async false
set_option linter.all false
set_option maxRecDepth 100000
set_option maxHeartbeats 2000000
local macro_rules | `(tactic| walk_at "ev") => `(tactic| (first
  | exact Evl.ev_c
  | exact Evl.ev_var rfl
  | (apply Hl.ev_I0 <;> walk_at "ev")
  | (apply Hl.ev_I <;> walk_at "ev")
  | (apply Hl.ev_ixT <;> walk_at "ev")
  | (apply Hl.ev_ixL <;> walk_at "ev")
  | exact Evl.ea_nil
  | (apply Evl.ea_cons <;> walk_at "ev")
  | (apply Hl.ev_callV <;> first | assumption | walk_at "ev")
  | (apply Hl.ev_eq <;> walk_at "ev")
  | (apply Hl.ev_ne <;> walk_at "ev")
  | (apply Hl.ev_fld <;> first | assumption | walk_at "ev")
  | (apply Hl.ev_lenL <;> first | assumption | walk_at "ev")
  | (apply Hl.ev_chain <;> first | (refine fun (_ : _ = _) => ?_; walk_at "ev") | walk_at "ev")
  | (apply Evl.ev_orV <;> first | (refine fun (_ : _ = _) => ?_; walk_at "ev") | walk_at "ev")
  | (apply Evl.ev_andV <;> first | (refine fun (_ : _ = _) => ?_; walk_at "ev") | walk_at "ev")
  | (apply Evl.ev_notV <;> walk_at "ev")
  | (apply Evl.et_test <;> walk_at "ev")
  | (apply Evl.et_B <;> walk_at "ev")
  | (apply Evl.et_not <;> walk_at "ev")
  | (apply Evl.et_and <;> first | (refine fun (_ : _ = _) => ?_; walk_at "ev") | walk_at "ev")
  | (apply Evl.et_or <;> first | (refine fun (_ : _ = _) => ?_; walk_at "ev") | walk_at "ev")
  | assumption
  | (exact Evl.st_of (by assumption))
  | exact rfl
  | skip))

namespace Hl
open PySem PySem.Spec PyProof.Rows L2 Evl
def topS (i : Nat) : Stmt := PySem.Challenge.pw_leadstrips_s06_root.main.body.getD i (.Pass ⟨0, 0, 0, 0⟩)
section
variable {K : PySem.W.Frag} {σ : L2.St} {H H' : Hp} {ta tb te : TE} {tt : TT} {tr : TA} {v : V} {vs : List Nat} {D : Ends} {tz : TS}
theorem q_asgR {i : Nat} {R : V → Hp → Prop} (h : EvR te σ H R) (k : ∀ v H1, Ex H H1 → R v H1 → tz D (σ.set i (some v)) H1) : tSeq (tAsg te (gName i)) tz D σ H := h H (Ex.refl H) _ fun v H1 e r => k v H1 e r
end
/-! ### roots -/
def IsRoot (r n : Nat) : Prop := n ≤ r * r ∧ ∀ k, k < r → k * k < n
theorem IsRoot.uniq {r r' n : Nat} (h : IsRoot r n) (h' : IsRoot r' n) : r = r' := by
  rcases Nat.lt_trichotomy r r' with q | q | q
  · have := h'.2 r q
    have := h.1
    omega
  · exact q
  · have := h.2 r' q
    have := h'.1
    omega
theorem sq_le {a b : Nat} (h : a ≤ b) : a * a ≤ b * b := Nat.mul_le_mul h h
theorem rootFrom_spec : ∀ k r n, r * r ≤ n → n < (r + 2 ^ k) * (r + 2 ^ k) → GlaCut.rootFrom k r n * GlaCut.rootFrom k r n ≤ n ∧ n < (GlaCut.rootFrom k r n + 1) * (GlaCut.rootFrom k r n + 1)
  | 0, r, n, h1, h2 => ⟨h1, h2⟩
  | k + 1, r, n, h1, h2 => by
    rw [GlaCut.rootFrom]
    by_cases h : (r + 2 ^ k) * (r + 2 ^ k) ≤ n
    · rw [if_pos h]
      refine rootFrom_spec k _ n h ?_
      rw [Nat.add_assoc, show 2 ^ k + 2 ^ k = 2 ^ (k + 1) by rw [Nat.pow_succ]; omega]
      exact h2
    · rw [if_neg h]
      exact rootFrom_spec k r n h1 (Nat.lt_of_not_le h)
theorem root_is {q n : Nat} (h1 : q * q ≤ n) (h2 : n < (q + 1) * (q + 1)) : IsRoot (if q * q = n then q else q + 1) n := by
  by_cases h : q * q = n
  · rw [if_pos h]
    refine ⟨by omega, fun k hk => ?_⟩
    have := Nat.mul_lt_mul'' hk hk
    omega
  · rw [if_neg h]
    refine ⟨by omega, fun k hk => ?_⟩
    have := sq_le (a := k) (b := q) (by omega)
    omega
theorem rootOver_is {n : Nat} (h : n < 2 ^ 66) : IsRoot (LeadSpec.rootOver n) n := by
  obtain ⟨h1, h2⟩ := rootFrom_spec 33 0 n (Nat.zero_le _) (by rw [Nat.zero_add, ← Nat.pow_add]; exact h)
  exact root_is h1 h2
theorem rootUp_is {n : Nat} (h : n < 2 ^ 48) : IsRoot (GlaCut.rootUp n) n := by
  obtain ⟨h1, h2⟩ := rootFrom_spec 24 0 n (Nat.zero_le _) (by rw [Nat.zero_add, ← Nat.pow_add]; exact h)
  exact root_is h1 h2
theorem root_up {n : Nat} (h : n < 2 ^ 48) : LeadSpec.rootOver n = GlaCut.rootUp n := (rootOver_is (by omega)).uniq (rootUp_is h)
section
variable {P : Program} {w : World} {K : PySem.W.Frag} {mg : Str → Option Value} {base : Heap}
def Art : List V → Hp → V → Prop := fun vs _ v => ∃ n : Nat, vs = [.int (n : Int)] ∧ n < 2 ^ 65 ∧ v = .int (LeadSpec.rootOver n : Nat)
theorem Art.mono : Mono Art := fun _ _ _ _ _ h => h
theorem cmul_n {i : Nat} {j : Int} (h : i < 2 ^ 64) : CMul (i : Int) j := .inl (by omega)
theorem lt_of_sq {a b : Nat} (h : a * a < b * b) : a < b := Nat.lt_of_not_le fun z => by
  have := sq_le z; omega
abbrev s_root_above : Stmt := topS 1
abbrev N_root_above : List Str := ["number", "most", "least", "middle"]
theorem sc_root_above : FnScope N_root_above ["number"] (defScope s_root_above) := ⟨rfl, rfl, rfl, by decide +kernel, rfl, by decide +kernel, by decide +kernel⟩
theorem k_root_above (F : Dfn K mg "root_above" s_root_above ["number"]) : Cal P w K mg base 1 "root_above" (spV Art) := by
  refine mk_V F sc_root_above (fun vs H v h => by obtain ⟨_, rfl, _⟩ := h; rfl) (fun f cdv A' outer s0 H vs E v hr a => ?_)
  obtain ⟨n, rfl, hn, rfl⟩ := a
  have hroot := rootOver_is (n := n) (by omega)
  refine ⟨_, (pss_cons (ps_set (i := 1) sc_root_above.nd rfl (Or.inl rfl) pe_int)
      (pss_cons (ps_while PassesOwn.never (pt_cmpR op_lt (pe_op op_mul (pv 1) (pv 1)) (pv 0) (nomark _)) (pss_one (ps_set (i := 1) sc_root_above.nd rfl (Or.inl rfl) (pe_op op_mul (pv 1) pe_int))))
      (pss_cons (ps_set (i := 2) sc_root_above.nd rfl (Or.inl rfl) pe_int)
      (pss_cons (ps_while PassesOwn.never (pt_cmpR op_lt (pv 2) (pv 1) (nomark _)) (pss_cons (ps_set (i := 3) sc_root_above.nd rfl (Or.inl rfl) (pe_op op_fdivW (pe_op op_add (pv 2) (pv 1)) pe_int))
      (pss_one (ps_if (pt_cmpR op_lt (pe_op op_mul (pv 3) (pv 3)) (pv 0) (nomark _)) (pss_one (ps_set (i := 2) sc_root_above.nd rfl (Or.inl rfl) (pe_op op_add (pv 3) pe_int))) (pss_one (ps_set (i := 1) sc_root_above.nd rfl (Or.inl rfl) (pv 3)))))))
      (pss_one (ps_ret (pv 2))))))), fun Q kq => ?_⟩
  apply q_asg (v := .int (1 : Nat))
  · exact ev_is ev_c rfl
  intro H1 e1
  refine q_while (fun m σ' H' => ∃ (a : Nat), m = n - a ∧ 1 ≤ a ∧ a < 2 ^ 34 ∧ Ex H H' ∧ σ' = [some (.int (n : Int)), some (.int (a : Int)), none, none]) (n - 1) ?_ ?_
  · exact ⟨1, rfl, by omega, by omega, e1, rfl⟩
  · rintro m σ' H2 ⟨a, rfl, h1, h2, e2, rfl⟩
    refine ⟨decide (a * a < n), ?_, ?_, ?_⟩
    · refine et_is (a := decide ((a : Int) * (a : Int) < (n : Int))) ?_ (by rw [Bool.eq_iff_iff, decide_eq_true_eq, decide_eq_true_eq]; constructor <;> (intro h; exact_mod_cast h))
      walk_at "ev"
      exact cmul_n (by omega)
    · intro hb H3 e3
      have hb := of_decide_eq_true hb
      refine ⟨fun σ2 H2 => ∃ m', m' < n - a ∧ ∃ (a : Nat), m' = n - a ∧ 1 ≤ a ∧ a < 2 ^ 34 ∧ Ex H H2 ∧ σ2 = [some (.int (n : Int)), some (.int (a : Int)), none, none], fun σ2 H2 h => h, ?_⟩
      apply s_asg (v := .int ((a * 2 : Nat) : Int))
      · refine ev_is (v := .int ((a : Int) * 2)) ?_ (by rw [Int.natCast_mul]; rfl)
        walk_at "ev"
        exact cmul_n (by omega)
      · intro H4 e4
        have ha : a < 2 ^ 33 := lt_of_sq (by omega)
        have han : a < n := by
          have := Nat.mul_le_mul_right a h1
          omega
        exact ⟨n - a * 2, by omega, a * 2, rfl, by omega, by omega, (e2.trans e3).trans e4, rfl⟩
    · intro hb H3 e3
      have hb := of_decide_eq_false hb
      apply q_asg (v := .int (0 : Nat))
      · exact ev_is ev_c rfl
      intro H4 e4
      have e04 := (e2.trans e3).trans e4
      refine q_while (fun m σ' H' => ∃ (l r : Nat) (o : Option V), m = r - l ∧ l ≤ r ∧ r < 2 ^ 34 ∧ n ≤ r * r ∧ (∀ k, k < l → k * k < n) ∧ Ex H H' ∧ σ' = [some (.int (n : Int)), some (.int (r : Int)), some (.int (l : Int)), o]) a ?_ ?_
      · exact ⟨0, a, none, rfl, Nat.zero_le _, h2, by omega, fun k hk => absurd hk (Nat.not_lt_zero k), e04, rfl⟩
      · rintro m σ' H5 ⟨l, r, o, rfl, g1, g2, g3, g4, e5, rfl⟩
        refine ⟨decide (l < r), ?_, ?_, ?_⟩
        · refine et_is (a := decide ((l : Int) < (r : Int))) ?_ (by rw [Bool.eq_iff_iff, decide_eq_true_eq, decide_eq_true_eq]; omega)
          walk_at "ev"
        · intro hb2 H6 e6
          have hb2 := of_decide_eq_true hb2
          refine ⟨fun σ2 H2 => ∃ m', m' < r - l ∧ ∃ (l r : Nat) (o : Option V), m' = r - l ∧ l ≤ r ∧ r < 2 ^ 34 ∧ n ≤ r * r ∧ (∀ k, k < l → k * k < n) ∧ Ex H H2 ∧ σ2 = [some (.int (n : Int)), some (.int (r : Int)), some (.int (l : Int)), o], fun σ2 H2 h => h, ?_⟩
          apply q_asg (v := .int (((l + r) / 2 : Nat) : Int))
          · refine ev_is (v := .int (((l : Int) + (r : Int)) / 2)) ?_ (by rw [Int.natCast_ediv, Int.natCast_add]; rfl)
            walk_at "ev"
            exact ⟨by decide, by decide⟩
          · intro H7 e7
            have c1 : l ≤ (l + r) / 2 := by omega
            have c2 : (l + r) / 2 < r := by omega
            generalize (l + r) / 2 = c at *
            apply s_if (b := decide (c * c < n))
            · refine et_is (a := decide ((c : Int) * (c : Int) < (n : Int))) ?_ (by rw [Bool.eq_iff_iff, decide_eq_true_eq, decide_eq_true_eq]; constructor <;> (intro h; exact_mod_cast h))
              walk_at "ev"
              exact cmul_n (by omega)
            · intro hb3 H8 e8
              have hb3 := of_decide_eq_true hb3
              apply s_asg (v := .int ((c + 1 : Nat) : Int))
              · refine ev_is (v := .int ((c : Int) + 1)) ?_ (by rw [Int.natCast_add]; rfl)
                walk_at "ev"
              · intro H9 e9
                refine ⟨r - (c + 1), by omega, c + 1, r, _, rfl, by omega, g2, g3, fun k hk => ?_, (((e5.trans e6).trans e7).trans e8).trans e9, rfl⟩
                have := sq_le (a := k) (b := c) (by omega)
                omega
            · intro hb3 H8 e8
              have hb3 := of_decide_eq_false hb3
              apply s_asg (v := .int (c : Int))
              · exact ev_var rfl
              · intro H9 e9
                exact ⟨c - l, by omega, l, c, _, rfl, c1, by omega, by omega, g4, (((e5.trans e6).trans e7).trans e8).trans e9, rfl⟩
        · intro hb2 H6 e6
          have hb2 := of_decide_eq_false hb2
          have hlr : l = r := by omega
          subst hlr
          have : LeadSpec.rootOver n = l := hroot.uniq ⟨g3, g4⟩
          apply s_ret
          · exact ev_var rfl
          · intro H7 e7
            have hq := kq H7 ((e5.trans e6).trans e7)
            rw [this] at hq; exact hq
def Arn : List V → Hp → (V → Hp → Prop) → Prop := fun vs _ R => ∃ n : Nat, vs = [.int (n : Int)] ∧ R = fun v H' => if n < 2 ^ 64 then v = .non else ∃ p, v = .ref p ∧ H' p = some (.lst [.int (-1)])
theorem Arn.mono : Mono Arn := fun _ _ _ _ _ h => h
abbrev s_refusal_of_number : Stmt := topS 3
abbrev N_refusal_of_number : List Str := ["number"]
theorem sc_refusal_of_number : FnScope N_refusal_of_number ["number"] (defScope s_refusal_of_number) := ⟨rfl, rfl, rfl, by decide +kernel, rfl, by decide +kernel, by decide +kernel⟩
theorem k_refusal_of_number (F : Dfn K mg "refusal_of_number" s_refusal_of_number ["number"]) : Cal P w K mg base 1 "refusal_of_number" (spR Arn) := by
  refine mk_R F sc_refusal_of_number (fun vs H v h => by obtain ⟨_, rfl, _⟩ := h; rfl) (fun f cdv A' outer s0 H vs E v hr a => ?_)
  obtain ⟨n, rfl, rfl⟩ := a
  refine ⟨_, (pss_cons (ps_if (pt_chain op_le op_lt pe_int (pv 0) (pe_op op_pow pe_int pe_int)) (pss_one (ps_ret pe_non)) pss_nil)
      (pss_one (ps_ret (pe_lst (pa_cons (pe_un un_neg pe_int) pa_nil))))), fun Q kq => ?_⟩
  apply q_when (b := decide (n < 2 ^ 64))
  · refine et_is (a := decide ((0 : Int) ≤ (n : Int)) && decide ((n : Int) < (18446744073709551616 : Int))) ?_ (by rw [Bool.eq_iff_iff]; simp only [Bool.and_eq_true, decide_eq_true_eq]; omega)
    refine et_test (ev_chain (g := fun i j => decide (i ≤ j)) (g' := fun i j => decide (i < j)) (i := 0) (j := (n : Int)) (k := 18446744073709551616) ev_c (ev_var rfl) fun _ => ev_is (ev_I (C := CPow) (g := fun i j => .int (i ^ j.toNat)) (i := 2) (j := 64) ev_c ev_c ⟨by decide, by decide, by decide⟩) ?_)
    exact congrArg V.int (by decide +kernel)
  · intro hb H1 e1
    apply s_ret
    · exact ev_c
    · intro H2 e2
      exact kq _ H2 (e1.trans e2) (by simp only [if_pos (of_decide_eq_true hb)])
  · intro hb H1 e1
    apply s_retL (xs := [.int (-1)])
    · exact el_lst (ea_cons (ev_un ev_c ru_neg) ea_nil) (by show 1 ≤ 100000; decide)
    · intro p H2 hp e2 h2
      exact kq _ H2 (e1.trans e2) (by simp only [if_neg (of_decide_eq_false hb)]; exact ⟨p, rfl, h2⟩)
theorem mk_RF {x : Str} {st : Stmt} {N ps : List Str} {k : Nat} {A : List V → Hp → (V → Hp → Prop) → Prop} {f : Addr} {fd : FuncData} (F : Fun K x x st f fd) (S : FnScope N ps (defScope st)) (len : ∀ vs H v, A vs H v → vs.length = ps.length)
    (hbody : ∀ (cdv : Value) (A' : Around) (outer : List Env) (s : Shared) (H : Hp) (vs : List V) (E : XK) (R : V → Hp → Prop), Room k (A'.deeper (envOfC x (defScope st) s.heap.objs.size f cdv)) → A vs H R →
      ∃ t, PSs (cxOf CX0 P w K mg base N x (defScope st) f cdv A' outer s H E).nox (defBody st) t ∧ ∀ (Q : VK), (∀ v H', Ex H H' → R v H' → Q v H') → t { nx := fun _ H' => Q .non H', rt := Q } (start N vs) H) : FnOk P w K mg base CX0 (k + 1) f fd ps (spR A) := by
  refine F.ok S (fun vs H Q E h => ?_) (fun cdv A' outer s H vs Q E hr h => ?_)
  · obtain ⟨v, a, _⟩ := h
    exact len vs H v a
  · obtain ⟨v, a, q⟩ := h
    obtain ⟨t, h1, h2⟩ := hbody cdv A' outer s H vs E v hr a
    exact ⟨t, h1, h2 Q q⟩
def rootV (n : Nat) : List Int := if n < 2 ^ 64 then [0, (LeadSpec.rootOver n : Nat)] else [-1]
def Arr (_ : PySem.W.Frag) : List V → Hp → (V → Hp → Prop) → Prop := fun vs _ R => ∃ n : Nat, vs = [.int (n : Int)] ∧ R = fun v H' => ∃ p, v = .ref p ∧ H' p = some (.lst ((rootV n).map V.int))
abbrev s_root : Stmt := topS 5
abbrev N_root : List Str := ["number", "refusal"]
theorem sc_root : FnScope N_root ["number"] (defScope s_root) := ⟨rfl, rfl, rfl, by decide +kernel, rfl, by decide +kernel, by decide +kernel⟩
theorem k_root {f : Addr} {fd : FuncData} (F : Fun K "root" "root" s_root f fd) (c_refusal_of_number : Cal P w K mg base 1 "refusal_of_number" (spR Arn)) (c_root_above : Cal P w K mg base 1 "root_above" (spV Art)) :
    FnOk P w K mg base CX0 2 f fd ["number"] (spR (Arr K)) := by
  refine mk_RF F sc_root (fun vs H v h => by obtain ⟨_, rfl, _⟩ := h; rfl) (fun cdv A' outer s0 H vs E v0 hr a => ?_)
  obtain ⟨n, rfl, rfl⟩ := a
  refine ⟨_, (pss_cons (ps_set (i := 1) sc_root.nd rfl (Or.inl rfl) (pe_c c_refusal_of_number hr (by decide) (by rfl) (pa_cons (pv 0) pa_nil)))
      (pss_cons (ps_if (pt_cmpR op_notN (pv 1) pe_non (nomark _)) (pss_one (ps_ret (pv 1))) pss_nil)
      (pss_one (ps_ret (pe_lst (pa_cons pe_int (pa_cons (pe_c c_root_above hr (by decide) (by rfl) (pa_cons (pv 0) pa_nil)) pa_nil))))))), fun Q kq => ?_⟩
  rw [rootV] at kq
  apply q_asgR
  · exact er_callR Arn.mono (vs := [.int (n : Int)]) (ea_cons (ev_var rfl) ea_nil) ⟨n, rfl, rfl⟩
  intro v1 H1 e1 io
  by_cases hn : n < 2 ^ 64
  · rw [if_pos hn] at kq
    simp only [if_pos hn] at io
    obtain rfl := io
    apply q_when (b := false)
    · exact et_test fun H4 e4 Q q => ⟨.non, rfl, rfl, q H4 (Ex.refl H4)⟩
    · intro z; cases z
    · intro _ H2 e2
      have m1 : Mono Art := Art.mono
      apply s_retL (xs := [.int 0, .int (LeadSpec.rootOver n : Nat)])
      · exact el_lst (ea_cons ev_c (ea_cons (ev_callV m1 (vs := [.int (n : Int)]) (ea_cons (ev_var rfl) ea_nil) ⟨n, rfl, by omega, rfl⟩) ea_nil)) (by show 2 ≤ 100000; decide)
      · intro p H3 hp e3 h3
        exact kq _ H3 ((e1.trans e2).trans e3) ⟨p, rfl, h3⟩
  · rw [if_neg hn] at kq
    simp only [if_neg hn] at io
    obtain ⟨p, rfl, hp⟩ := io
    apply q_when (b := true)
    · exact et_test fun H4 e4 Q q => ⟨.ref p, rfl, rfl, q H4 (Ex.refl H4)⟩
    · intro _ H2 e2
      apply s_ret
      · exact ev_var rfl
      · exact fun H3 e3 => kq _ H3 ((e1.trans e2).trans e3) ⟨p, rfl, (e2.trans e3) _ _ hp⟩
    · intro z; cases z
theorem root_told (n : Nat) : Neutral.told (LeadSpec.answer (.root n)) = rootV n := by
  rw [LeadSpec.answer, rootV]
  show Neutral.told (if decide (n < 2 ^ 64) = false then _ else _) = _
  by_cases h : n < 2 ^ 64
  · rw [if_pos h, if_neg (by rw [decide_eq_true h]; decide)]; rfl
  · rw [if_neg h, if_pos (decide_eq_false h)]; rfl
end
end Hl
end PSr0

section PTab_root
set_option Elab.async false
set_option linter.all false
set_option maxRecDepth 100000
set_option maxHeartbeats 8000000
namespace Hl
open PySem PySem.Spec PyProof.Rows L2 Evl


theorem all_mk {P : Program} {w : World} {K : PySem.W.Frag} {h : Heap} {mg : Str → Option Value} {fa : Addr} {f_root_above : Addr} {od_root_above an_root_above : Option Addr} {sl_root_above : Array (Option Value)} {oc_root_above kV_root_above dc_root_above pm_root_above cd_root_above ct_root_above : Value}
    {f_refusal_of_number : Addr} {od_refusal_of_number an_refusal_of_number : Option Addr} {sl_refusal_of_number : Array (Option Value)} {oc_refusal_of_number kV_refusal_of_number dc_refusal_of_number pm_refusal_of_number cd_refusal_of_number ct_refusal_of_number : Value}
    {f_root : Addr} {od_root an_root : Option Addr} {sl_root : Array (Option Value)} {oc_root kV_root dc_root pm_root cd_root ct_root : Value} (X : K.In h) (G : h.Ns mainGlobals mg) (hfa : mg "root" = some (.ref fa))
    (a_root_above : PySem.W.nsIn K mainGlobals "root_above" = some (some (.ref f_root_above)))
    (l_root_above : K.lookup f_root_above = some ⟨oc_root_above, od_root_above, .func (PySem.W.fnOf "root_above" "root_above" (defArgs s_root_above) (defBody s_root_above) (defScope s_root_above) .none kV_root_above dc_root_above pm_root_above an_root_above cd_root_above ct_root_above), sl_root_above⟩)
    (c_root_above : PySem.W.codeIn K cd_root_above "root_above" = true)
    (kp_root_above : PySem.W.keepIn K (.ref f_root_above) = true)
    (a_refusal_of_number : PySem.W.nsIn K mainGlobals "refusal_of_number" = some (some (.ref f_refusal_of_number)))
    (l_refusal_of_number : K.lookup f_refusal_of_number = some ⟨oc_refusal_of_number, od_refusal_of_number, .func (PySem.W.fnOf "refusal_of_number" "refusal_of_number" (defArgs s_refusal_of_number) (defBody s_refusal_of_number) (defScope s_refusal_of_number) .none kV_refusal_of_number dc_refusal_of_number pm_refusal_of_number an_refusal_of_number cd_refusal_of_number ct_refusal_of_number), sl_refusal_of_number⟩)
    (c_refusal_of_number : PySem.W.codeIn K cd_refusal_of_number "refusal_of_number" = true)
    (kp_refusal_of_number : PySem.W.keepIn K (.ref f_refusal_of_number) = true)
    (a_root : PySem.W.nsIn K mainGlobals "root" = some (some (.ref f_root)))
    (l_root : K.lookup f_root = some ⟨oc_root, od_root, .func (PySem.W.fnOf "root" "root" (defArgs s_root) (defBody s_root) (defScope s_root) .none kV_root dc_root pm_root an_root cd_root ct_root), sl_root⟩)
    (c_root : PySem.W.codeIn K cd_root "root" = true)
    (kp_root : PySem.W.keepIn K (.ref f_root) = true) :
    ∃ fd : FuncData, (∀ (s : Shared) (us : List Value), us.length = (["number"] : List Str).length → BindsTo s fd ⟨us, []⟩ ((["number"] : List Str).zip us)) ∧ ∀ base : Heap, K.In base → base.Ns mainGlobals mg → FnOk P w K mg base CX0 2 fa fd ["number"] (spR (Arr K)) := by
  have e := hfa.symm.trans (PySem.W.mg_of X G a_root)
  cases e
  have d_root_above : Dfn K mg "root_above" s_root_above ["number"] := ⟨f_root_above, _, fun_mk l_root_above c_root_above kp_root_above, PySem.W.mg_of X G a_root_above, kp_root_above, (fun_mk (st := s_root_above) l_root_above c_root_above kp_root_above).binds fun _ _ _ _ _ _ us hl => match us, hl with | [_], _ => rfl⟩
  have d_refusal_of_number : Dfn K mg "refusal_of_number" s_refusal_of_number ["number"] := ⟨f_refusal_of_number, _, fun_mk l_refusal_of_number c_refusal_of_number kp_refusal_of_number, PySem.W.mg_of X G a_refusal_of_number, kp_refusal_of_number, (fun_mk (st := s_refusal_of_number) l_refusal_of_number c_refusal_of_number kp_refusal_of_number).binds fun _ _ _ _ _ _ us hl => match us, hl with | [_], _ => rfl⟩
  have F0 := fun_mk (st := s_root) l_root c_root kp_root
  refine ⟨_, fun s us hu => match us, hu with | [_], _ => .of_eq rfl, fun base _ _ => (?_ : FnOk P w K mg base CX0 2 _ (PySem.W.fnOf "root" "root" (defArgs s_root) (defBody s_root) (defScope s_root) .none kV_root dc_root pm_root an_root cd_root ct_root) ["number"] _)⟩
  have g_refusal_of_number := k_refusal_of_number (P := P) (w := w) (base := base) (F := d_refusal_of_number)
  have g_root_above := k_root_above (P := P) (w := w) (base := base) (F := d_root_above)
  exact k_root (F := F0) (c_refusal_of_number := g_refusal_of_number) (c_root_above := g_root_above)
end Hl
end PTab_root

section PRow_root
set_option Elab.async false
set_option linter.all false
set_option maxRecDepth 100000
set_option maxHeartbeats 4000000
namespace Hl
open PySem PySem.Spec PyProof.Rows L2 Evl
/-! ### what the row asks -/
theorem root_due {z : Int} (h : PyYqglca.root_asked z = true) : ∃ n : Nat, z = (n : Int) ∧ PyYqglca.root z = rootV n := by
  rw [PyYqglca.root_asked, Neutral.asked] at h
  simp only [List.all_cons, List.all_nil, Bool.and_true, Bool.and_eq_true, Neutral.asked1] at h
  obtain ⟨_, h1, _⟩ := h
  rw [Neutral.whole] at h1
  have h1 := of_decide_eq_true h1
  refine ⟨z.toNat, by omega, ?_⟩
  rw [PyYqglca.root, Neutral.f]
  have : Neutral.callOf [[6, z]] = some (.root z.toNat) := by
    simp only [Neutral.callOf, Neutral.nat]
    rw [if_neg (by omega)]
    rfl
  rw [this]
  exact root_told z.toNat
theorem row_S (K : PySem.W.Frag) (H : Hp) (xs : List V) (a : PySem.W.Codec.denoteAll PySem.Challenge.rw_leadstrips_s06_root.args) (hwi : PySem.W.Codec.withinAll PySem.Challenge.rw_leadstrips_s06_root.args a = true)
    (hask : PySem.W.Codec.app PySem.Challenge.rw_leadstrips_s06_root.args PySem.Challenge.rw_leadstrips_s06_root.asked a = true) (hx : DwAll K H xs (PySem.W.Codec.encAll PySem.Challenge.rw_leadstrips_s06_root.args a)) :
    spR (Arr K) xs H (fun v H' => Dw K H' v (PySem.Challenge.rw_leadstrips_s06_root.ret.enc (PySem.W.Codec.app PySem.Challenge.rw_leadstrips_s06_root.args PySem.Challenge.rw_leadstrips_s06_root.f a))) fun _ _ _ => False := by
  obtain ⟨a1, u⟩ := a
  obtain ⟨n, rfl, hf⟩ := root_due (z := a1) hask
  have hx' : xs = [.int (n : Int)] := by
    cases hx with
    | cons h1 hx =>
    cases hx
    cases h1
    rfl
  subst hx'
  refine ⟨_, ⟨n, rfl, rfl⟩, ?_⟩
  rintro v H' e ⟨q, rfl, hq⟩
  have hd : Dw K H' (.ref q) (.list ((rootV n).map PySem.W.WData.int)) := .lst (SqL.of hq) (dw_ints _)
  rw [← hf] at hd
  exact hd
end Hl
end PRow_root

section PFin_root
set_option Elab.async false
set_option linter.all false
set_option maxRecDepth 100000
set_option maxHeartbeats 2000000
open PySem PySem.W PyProof.Rows
set_option maxRecDepth 100000 in
set_option maxHeartbeats 8000000 in
theorem PySem.Challenge.cw_leadstrips_s06_root_holds : PySem.Challenge.rw_leadstrips_s06_root.Holds := by
  w_on; k_headS; (case hw => exact ⟨[.int 0], by decide +kernel, by decide +kernel⟩)
  k_fillS
  refine L2.walk_specK (r := PySem.Challenge.rw_leadstrips_s06_root) (k := 2) (CX := L2.CX0) (ps := ["number"]) (sp := fun K => Hl.spR (Hl.Arr K)) (by decide +kernel) rfl rfl ⟨rfl, by decide, by decide⟩ (fun w h Y => PySem.W.kIn_of Y) ?F ?S (fun _ _ _ _ z => z)
  case F =>
    intro w mg fa h Y KX G hmg
    refine' Hl.all_mk KX G hmg ?a_root_above ?l_root_above ?c_root_above ?kp_root_above ?a_refusal_of_number ?l_refusal_of_number ?c_refusal_of_number ?kp_refusal_of_number ?a_root ?l_root ?c_root ?kp_root
    (case a_root_above => k_is)
    (case l_root_above => k_is)
    (case c_root_above => k_is)
    (case kp_root_above => k_is)
    (case a_refusal_of_number => k_is)
    (case l_refusal_of_number => k_is)
    (case c_refusal_of_number => k_is)
    (case kp_refusal_of_number => k_is)
    (case a_root => k_is)
    (case l_root => k_is)
    (case c_root => k_is)
    (case kp_root => k_is)
  case S => exact fun K H xs a _ hwi hask hx => Hl.row_S K H xs a hwi hask hx
#print axioms PySem.Challenge.cw_leadstrips_s06_root_holds
end PFin_root
