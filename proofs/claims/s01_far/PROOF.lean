import PyProof.Rows.All
import Wide.All
import OpenK.AllK
import Wide.FinOn
import Open.SpecLaws
import KE.OsGo
import HandS.ForSpec
import HandS.Comp
import HandS.Evl
import HandS.WideBits
import HandS.Zip
import HandS.Walk
import PySem.Challenge.RW_nearestrows_s01_far
set_option Elab.async false
set_option maxRecDepth 100000
set_option maxHeartbeats 2000000
namespace Nr
/-! ### numbers and lists -/
/-- whole numbers of a list of naturals -/
abbrev ii (l : List Nat) : List Int := l.map fun (x : Nat) => (x : Int)
theorem ii_len (l : List Nat) : (ii l).length = l.length := List.length_map _
theorem ii_back : ∀ {l : List Int}, (∀ x ∈ l, 0 ≤ x) → ii (l.map Int.toNat) = l
  | [], _ => rfl
  | x :: r, h => by
    have h1 : ((x.toNat : Nat) : Int) = x := Int.toNat_of_nonneg (h x List.mem_cons_self)
    have h2 := ii_back (l := r) fun y hy => h y (List.mem_cons_of_mem _ hy)
    show ((x.toNat : Nat) : Int) :: ii (r.map Int.toNat) = x :: r
    rw [h1, h2]
theorem toNat_ii (l : List Nat) : (ii l).map Int.toNat = l := by
  induction l with
  | nil => rfl
  | cons x r ih =>
    show ((x : Int).toNat) :: (ii r).map Int.toNat = x :: r
    rw [ih, Int.toNat_natCast]
theorem foldl_add (l : List Nat) : ∀ a : Nat, l.foldl (· + ·) a = a + l.foldl (· + ·) 0 := by
  induction l with
  | nil => intro a; rfl
  | cons x r ih =>
    intro a
    show r.foldl (· + ·) (a + x) = a + r.foldl (· + ·) (0 + x)
    rw [ih (a + x), ih (0 + x)]
    omega
theorem sum_ii (l : List Nat) : (ii l).sum = ((Kzi1.sum l : Nat) : Int) := by
  induction l with
  | nil => rfl
  | cons x r ih =>
    have e : Kzi1.sum (x :: r) = x + Kzi1.sum r := by
      show r.foldl (· + ·) (0 + x) = x + r.foldl (· + ·) 0
      rw [foldl_add r (0 + x)]
      omega
    show ((x : Int) :: ii r).sum = _
    rw [List.sum_cons, ih, e]
    omega
/-! ### one answer of a row -/
theorem bit_ne (x y q : Nat) : (!decide ((((x / 2 ^ q % 2 : Nat) : Int)) = ((y / 2 ^ q % 2 : Nat) : Int))) = (Kzi1.bit x q != Kzi1.bit y q) := by
  unfold Kzi1.bit
  have h1 : x / 2 ^ q % 2 = 0 ∨ x / 2 ^ q % 2 = 1 := by omega
  have h2 : y / 2 ^ q % 2 = 0 ∨ y / 2 ^ q % 2 = 1 := by omega
  rcases h1 with h1 | h1 <;> rcases h2 with h2 | h2 <;> rw [h1, h2] <;> decide
/-- the questions on which two rows differ -/
abbrev diff (m x y : Nat) : List Nat := (List.range m).filter fun q => Kzi1.bit x q != Kzi1.bit y q
/-! ### none twice -/
/-- a set's making: what has not been met is put behind -/
abbrev put (acc : List Int) (x : Int) : List Int := if acc.any (· == x) then acc else acc ++ [x]
theorem put_le : ∀ (l : List Nat) (acc : List Int), ((ii l).foldl put acc).length ≤ acc.length + l.length
  | [], acc => Nat.le_refl _
  | x :: r, acc => by
    show ((ii r).foldl put (put acc x)).length ≤ acc.length + (r.length + 1)
    have ih := put_le r (put acc x)
    have h : (put acc x).length ≤ acc.length + 1 := by
      show (if acc.any (· == (x : Int)) = true then acc else acc ++ [(x : Int)]).length ≤ _
      split
      · omega
      · rw [List.length_append]; exact Nat.le_refl _
    omega
theorem put_eq : ∀ (l : List Nat) (acc : List Int), ((ii l).foldl put acc).length = acc.length + l.length ↔ (Kzi1.distinct l = true ∧ ∀ x ∈ l, (x : Int) ∉ acc)
  | [], acc => by simp [Kzi1.distinct]
  | x :: r, acc => by
    show ((ii r).foldl put (put acc x)).length = acc.length + (r.length + 1) ↔ _
    by_cases hx : (x : Int) ∈ acc
    · have hb : (acc.any fun y => y == (x : Int)) = true := List.any_eq_true.mpr ⟨_, hx, beq_self_eq_true _⟩
      have e : put acc x = acc := if_pos hb
      rw [e]
      have h := put_le r acc
      constructor
      · intro q
        omega
      · rintro ⟨_, q⟩
        exact absurd hx (q x List.mem_cons_self)
    · have hb : ¬ (acc.any fun y => y == (x : Int)) = true := by
        intro q
        obtain ⟨y, hy, ey⟩ := List.any_eq_true.mp q
        rw [eq_of_beq ey] at hy
        exact hx hy
      have e : put acc x = acc ++ [(x : Int)] := if_neg hb
      have ih := put_eq r (acc ++ [(x : Int)])
      rw [List.length_append, List.length_singleton] at ih
      rw [e]
      constructor
      · intro q
        obtain ⟨h1, h2⟩ := ih.mp (by omega)
        refine ⟨?_, ?_⟩
        · show (!r.contains x && Kzi1.distinct r) = true
          rw [h1, Bool.and_true, Bool.not_eq_true']
          cases hb : r.contains x with
          | false => rfl
          | true =>
            have hm : x ∈ r := List.contains_iff_mem.mp hb
            exact absurd (List.mem_append_right acc (List.mem_singleton.mpr rfl)) (h2 x hm)
        · intro y hy
          rcases List.mem_cons.mp hy with rfl | hy
          · exact hx
          · exact fun z => h2 y hy (List.mem_append_left _ z)
      · rintro ⟨h1, h2⟩
        have h1' : (!r.contains x && Kzi1.distinct r) = true := h1
        rw [Bool.and_eq_true, Bool.not_eq_true'] at h1'
        have q := ih.mpr ⟨h1'.2, fun y hy z => ?_⟩
        · omega
        · rcases List.mem_append.mp z with z | z
          · exact h2 y (List.mem_cons_of_mem _ hy) z
          · have ey : (y : Int) = (x : Int) := List.mem_singleton.mp z
            have ey' : y = x := by omega
            rw [ey'] at hy
            have := List.contains_iff_mem.mpr hy
            rw [h1'.1] at this
            cases this
theorem put_dec (l : List Nat) : decide ((((ii l).foldl put []).length : Int) = (l.length : Int)) = Kzi1.distinct l := by
  have h := put_eq l []
  rw [List.length_nil, Nat.zero_add] at h
  rw [Bool.eq_iff_iff, decide_eq_true_eq]
  constructor
  · intro q
    exact (h.mp (by omega)).1
  · intro q
    have := h.mpr ⟨q, fun _ _ z => nomatch z⟩
    omega
/-! ### what may be asked -/
theorem rules_is (m : Nat) (ok : List Nat) : (decide (1 ≤ m) && decide (m ≤ 5) && (decide (0 < ok.length) && (Kzi1.distinct ok && ok.all fun r => decide (r < 2 ^ m)))) = Kzi1.okRules m ok := by
  unfold Kzi1.okRules
  have e : decide (0 < ok.length) = !ok.isEmpty := by
    cases ok <;> rfl
  rw [e]
  cases decide (1 ≤ m) <;> cases decide (m ≤ 5) <;> cases ok.isEmpty <;> cases Kzi1.distinct ok <;> cases ok.all (fun r => decide (r < 2 ^ m)) <;> rfl
theorem votes_is (ok v : List Nat) : (decide (1 ≤ v.length) && decide (v.length ≤ 15) && v.all fun r => ok.contains r) = Kzi1.okVotes ok v := rfl
theorem rules_fits {m : Nat} {ok : List Nat} (h : Kzi1.okRules m ok = true) : 1 ≤ m ∧ m ≤ 5 := by
  unfold Kzi1.okRules at h
  simp only [Bool.and_eq_true, decide_eq_true_eq] at h
  exact h.1.1.1
theorem good_fits {m : Nat} {ok v : List Nat} (h : Kzi1.good m ok v = true) : 1 ≤ m ∧ m ≤ 5 := by
  unfold Kzi1.good at h
  rw [Bool.and_eq_true] at h
  exact rules_fits h.1
/-! ### the answers that are due -/
theorem far_is (m x y : Nat) : PyKzi4.far m x y = if 1 ≤ m ∧ m ≤ 5 ∧ x < 2 ^ m ∧ y < 2 ^ m then [((Kzi4.far m x y : Nat) : Int)] else [-22] := by
  show (let a := Kzi4.answer (.far ((m : Int).toNat) ((x : Int).toNat) ((y : Int).toNat)); a.value :: Kzi4Neutral.ints a.nums) = _
  rw [Int.toNat_natCast, Int.toNat_natCast, Int.toNat_natCast]
  show (let a := (if 1 ≤ m ∧ m ≤ 5 ∧ x < 2 ^ m ∧ y < 2 ^ m then Kzi1.say (Kzi4.far m x y : Nat) else Kzi1.say (-22)); a.value :: Kzi4Neutral.ints a.nums) = _
  split <;> rfl
theorem total_is (m r : Nat) (ok v : List Nat) : PyKzi4.total m r (ii ok) (ii v) = if Kzi1.good m ok v = false ∨ 2 ^ m ≤ r then [-22] else [((Kzi4.total m v r : Nat) : Int)] := by
  show (let a := Kzi4.answer (.total ((m : Int).toNat) ((r : Int).toNat) ((ii ok).map Int.toNat) ((ii v).map Int.toNat)); a.value :: Kzi4Neutral.ints a.nums) = _
  rw [Int.toNat_natCast, Int.toNat_natCast, toNat_ii, toNat_ii]
  show (let a := (if Kzi1.good m ok v = false ∨ 2 ^ m ≤ r then Kzi1.say (-22) else Kzi1.say (Kzi4.total m v r : Nat)); a.value :: Kzi4Neutral.ints a.nums) = _
  split <;> rfl
end Nr
/-! ### words that the layer lacks -/
namespace Nr
open PySem PySem.Spec PyProof.Rows L2 Evl
section
variable {K : PySem.W.Frag} {σ : L2.St} {H : Hp} {ta tb tc : TE} {x y u : V} {r r' : R2}
/-- a chain of two comparisons -/
theorem ev_chain {k b : Bool} (ha : Ev ta σ H x) (hb : Ev tb σ H y) (hr : RV r x y H (.bl k)) (hc : Ev tc σ H u) (hr' : RV r' y u H (.bl b)) :
    Ev (tChain r r' ta tb tc) σ H (.bl (k && b)) := fun H1 e Q q =>
  ha H1 e _ fun H2 e2 => hb H2 (e.trans e2) _ fun H3 e3 => hr H3 ((e.trans e2).trans e3) _ fun H4 e4 => ⟨k, rfl, by
    cases k with
    | true =>
      exact iteT (hc H4 (((e.trans e2).trans e3).trans e4) _ fun H5 e5 =>
        hr' H5 ((((e.trans e2).trans e3).trans e4).trans e5) Q fun H6 e6 => q H6 ((((e2.trans e3).trans e4).trans e5).trans e6))
    | false => exact iteF (q H4 ((e2.trans e3).trans e4))⟩
/-- the first operand a list that the call makes anew, for a call of a built-in -/
theorem ev_cbN {rr : List V → Hp → VK → Prop} {xs : List V} {z : V} (ha : EvL ta σ H xs) (hr : ∀ p H1, H1 p = some (.lst xs) → RC rr [.ref p] H1 z) :
    Ev (tCB rr (tCons ta tNil)) σ H z := fun H1 e Q q =>
  ha H1 e _ fun p H2 _ e2 hp => hr p H2 hp H2 (Ex.refl H2) Q fun H3 e3 => q H3 (e2.trans e3)
theorem ea_one (ha : Ev ta σ H x) : EvA (tCons ta tNil) σ H [x] := ea_cons ha ea_nil
theorem ea_two (ha : Ev ta σ H x) (hb : Ev tb σ H y) : EvA (tCons ta (tCons tb tNil)) σ H [x, y] := ea_cons ha (ea_one hb)
theorem ea_three (ha : Ev ta σ H x) (hb : Ev tb σ H y) (hc : Ev tc σ H u) : EvA (tCons ta (tCons tb (tCons tc tNil))) σ H [x, y, u] := ea_cons ha (ea_two hb hc)
end
/-- a list of naturals as it stands in the heap -/
abbrev nv (l : List Nat) : List V := (ii l).map V.int
theorem nv_len (l : List Nat) : (nv l).length = l.length := by
  rw [List.length_map, List.length_map]
theorem nv_get {l : List Nat} {i : Nat} {x : V} (h : (nv l)[i]? = some x) : i < l.length ∧ x = .int ((l.getD i 0 : Nat) : Int) := by
  rw [List.getElem?_map, List.getElem?_map] at h
  cases e : l[i]? with
  | none =>
    rw [e] at h
    cases h
  | some n =>
    rw [e] at h
    obtain ⟨hi, _⟩ := List.getElem?_eq_some_iff.mp e
    refine ⟨hi, ?_⟩
    rw [List.getD_eq_getElem?_getD, e]
    exact (Option.some.inj h).symm
theorem nv_in (l : List Nat) (n : Nat) : inV (.int (n : Int)) (nv l) = l.contains n := by
  induction l with
  | nil => rfl
  | cons x r ih =>
    show (((x : Int) == (n : Int)) || inV (.int (n : Int)) (nv r)) = (x :: r).contains n
    rw [ih, List.contains_cons]
    have e : ((x : Int) == (n : Int)) = (n == x) := by
      rw [Bool.eq_iff_iff, beq_iff_eq, beq_iff_eq]
      omega
    rw [e]
theorem nv_flat (l : List Nat) : (nv l).all flatV = true := by
  induction l with
  | nil => rfl
  | cons x r ih => exact ih
/-- a comprehension without a test over a list of naturals -/
theorem given_all {α : Type} (g : α → V) (F : Nat → α) (l : List Nat) : given l.length (fun _ => true) (fun i => g (F (l.getD i 0))) = (l.map F).map g := by
  unfold given
  rw [List.filter_eq_self.mpr fun _ _ => rfl, List.map_map]
  refine List.ext_getElem? fun i => ?_
  rw [List.getElem?_map, List.getElem?_map]
  by_cases h : i < l.length
  · rw [List.getElem?_range h, List.getElem?_eq_getElem h, Option.map_some, Option.map_some, List.getD_eq_getElem?_getD, List.getElem?_eq_getElem h]
    rfl
  · rw [List.getElem?_eq_none (by rw [List.length_range]; omega), List.getElem?_eq_none (by omega)]
    rfl
section
variable {K : PySem.W.Frag} {σ : L2.St} {H : Hp} {ta : TE} {xs : List V}
theorem ev_allL {bs : List Bool} (ha : EvL ta σ H xs) (e : xs = bs.map V.bl) : Ev (tCB (rAll K) (tCons ta tNil)) σ H (.bl (bs.all id)) := by
  subst e
  exact ev_cbN ha fun p H1 hp H2 e2 Q q => ⟨p, bs, rfl, ex_l e2 (sq_of hp), q H2 (Ex.refl H2)⟩
theorem ev_anyL {bs : List Bool} (ha : EvL ta σ H xs) (e : xs = bs.map V.bl) : Ev (tCB (rAny K) (tCons ta tNil)) σ H (.bl (bs.any id)) := by
  subst e
  exact ev_cbN ha fun p H1 hp H2 e2 Q q => ⟨p, bs, rfl, ex_l e2 (sq_of hp), q H2 (Ex.refl H2)⟩
theorem ev_sumL {ns : List Int} (ha : EvL ta σ H xs) (e : xs = ns.map V.int) : Ev (tCB (rSum K) (tCons ta tNil)) σ H (.int ns.sum) := by
  subst e
  exact ev_cbN ha fun p H1 hp H2 e2 Q q => ⟨p, ns, rfl, ex_l e2 (sq_of hp), q H2 (Ex.refl H2)⟩
theorem et_yes : EvT tYes σ H true := fun H1 _ _ q => q H1 (Ex.refl H1)
end
/-! ### the defs of the top -/
/-- the def x stands at the top as it was written -/
def Std (K : PySem.W.Frag) (mg : Str → Option Value) (x : Str) (st : Stmt) (ps : List Str) : Prop :=
  ∃ (f : Addr) (fd : FuncData), Fun K x x st f fd ∧ Binds K fd ps [] ∧ mg x = some (.ref f) ∧ ∀ (s : Shared) (us : List Value), us.length = ps.length → BindsTo s fd ⟨us, []⟩ (ps.zip us)
/-- the def x of the top keeps a promise, by at most so many calls in one another -/
def Has (P : Program) (w : World) (K : PySem.W.Frag) (mg : Str → Option Value) (base : Heap) (k : Nat) (x : Str) (ps : List Str) (sp : Sp) : Prop :=
  ∃ (f : Addr) (fd : FuncData), FnOk P w K mg base CX0 k f fd ps sp ∧ PySem.W.keepIn K (.ref f) = true ∧ Binds K fd ps [] ∧ mg x = some (.ref f)
theorem has_of {P : Program} {w : World} {K : PySem.W.Frag} {mg : Str → Option Value} {base : Heap} {k : Nat} {x : Str} {st : Stmt} {ps : List Str} {sp : Sp} (S : Std K mg x st ps)
    (h : ∀ (f : Addr) (fd : FuncData), Fun K x x st f fd → FnOk P w K mg base CX0 k f fd ps sp) : Has P w K mg base k x ps sp := by
  obtain ⟨f, fd, F, b, g, _⟩ := S
  exact ⟨f, fd, h f fd F, F.kp, b, g⟩
theorem std_mk {K : PySem.W.Frag} {h : Heap} {mg : Str → Option Value} {x : Str} {st : Stmt} {ps : List Str} {f : Addr} {oc kV dc pm cd ct : Value} {od an : Option Addr} {sl : Array (Option Value)} (X : K.In h) (G : h.Ns mainGlobals mg)
    (a : PySem.W.nsIn K mainGlobals x = some (some (.ref f))) (l : K.lookup f = some ⟨oc, od, .func (PySem.W.fnOf x x (defArgs st) (defBody st) (defScope st) .none kV dc pm an cd ct), sl⟩) (c : PySem.W.codeIn K cd x = true) (k : PySem.W.keepIn K (.ref f) = true)
    (hb : ∀ (kV dc pm : Value) (an : Option Addr) (cd ct : Value) (us : List Value), us.length = ps.length → bindArgs (PySem.W.fnOf x x (defArgs st) (defBody st) (defScope st) .none kV dc pm an cd ct) ⟨us, []⟩ = pure (ps.zip us)) : Std K mg x st ps := by
  have F := fun_mk (st := st) l c k
  exact ⟨f, _, F, F.binds hb, PySem.W.mg_of X G a, fun s us hu => .of_eq (hb kV dc pm an cd ct us hu)⟩
/-- a call of such a def -/
theorem pe_has {X : Cx} {k j : Nat} {x : Str} {ps : List Str} {sp : Sp} {e : Expr} {es : List Expr} {p pos : Pos} {t : TA} (h : Has X.prog X.w X.K X.mg X.base k x ps sp) (hr : Room j X.A) (hk : k ≤ j) (hg : Gl X x) (ha : PA X (e :: es) t)
    (hdb : (x == ("__debug__" : Str)) = false := by decide) (he : starEach (e :: es) X.env = (false, eval e X.env) :: starEach es X.env := by rfl) (hpl : (backTo pos (starEach es X.env)).any (·.1) = false := by rfl)
    (hx : Passes CX0 X E0 := by exact pass0) : PE X (.Call (.Name x p) (e :: es) [] pos) (tCall sp [] E0 t) := by
  obtain ⟨f, fd, G, kp, b, g⟩ := h
  exact pe_call G (hr.mono hk) hg g kp b .nil hx ha hdb he hpl
/-! ### len(set(xs)) of whole numbers, whether or not one stands twice -/
theorem met_is (l : List Nat) : firstMet (fun i => (ii l).getD i 0) l.length = (ii l).foldl put [] := by
  have e : (List.range l.length).map (fun i => (ii l).getD i 0) = ii l := by
    refine List.ext_getElem? fun i => ?_
    rw [List.getElem?_map]
    by_cases h : i < l.length
    · have h2 : i < (ii l).length := by
        rw [ii_len]
        exact h
      rw [List.getElem?_range h, Option.map_some, List.getElem?_eq_getElem h2, List.getD_eq_getElem?_getD, List.getElem?_eq_getElem h2]
      rfl
    · rw [List.getElem?_eq_none (by rw [List.length_range]; omega), List.getElem?_eq_none (by rw [ii_len]; omega)]
      rfl
  unfold firstMet
  rw [e]
  rfl
def tLenSetN (K : PySem.W.Frag) (ta : TE) : TE := fun σ H Q => ta σ H fun x H1 => ∃ (l : Addr) (ns : List Nat), x = .ref l ∧ SqL K H1 l (nv ns) ∧ ns.length ≤ 1000 ∧ Q (.int ((((ii ns).foldl put []).length : Nat) : Int)) H1
theorem pe_lenSetN {X : Cx} {a : Expr} {ta : TE} {p p2 q pos : Pos} (g1 : Gl X "len") (z1 : X.mg "len" = none) (g2 : Gl X "set") (z2 : X.mg "set" = none) (ha : PE X a ta) (hc : X.calm = true := by rfl)
    (na : starEach [a] X.env = (false, eval a X.env) :: starEach [] X.env := by rfl) : PE X (.Call (.Name "len" p) [.Call (.Name "set" p2) [a] [] q] [] pos) (tLenSetN X.K ta) := ⟨fun pins s σ H Q I h => by
  refine Call_ (ld_blt I g1 z1 boot_len (callWith_builtin1 (args_cons (Call_ (ld_blt I g2 z2 boot_set (callWith_type1 (args_cons (thn (ha.run pins s σ H _ I h) fun v s1 hv => args_nil ?_) na) na rfl))) rfl) rfl rfl))
  obtain ⟨x, H1, I1, r1, l, ns, rfl, hq, hl, q1⟩ := hv
  cases r1
  obtain ⟨its, rr, pl, _⟩ := I1.list hq
  have hz : its.toArray.size = ns.length := by
    rw [List.size_toArray, ← rr.length, nv_len]
  refine PySem.call_set_list (I1.ok.hd hc) pl.isList (ns := ii ns) (by simpa using RZ.intsAre_vals rr) (by rw [hz]; unfold scanBound; omega) fun h' tk hS hk => args_nil ?_
  rw [hz, met_is] at hS
  obtain ⟨o, es, ep, t, ho, hex, hd, _, _, _, hf, hn⟩ := hS
  have hle := put_le ns []
  rw [List.length_nil, Nat.zero_add] at hle
  exact PySem.call_len_set ho hex hd hf (by rw [hn]; omega) ⟨.int ((((ii ns).foldl put []).length : Nat) : Int), H1, (I1.kept fun b o e => hk b o (Heap.lt_size e) e).tok _, ⟨_, by rw [hn]⟩, q1⟩⟩
theorem ev_lenSetN {K : PySem.W.Frag} {σ : L2.St} {H : Hp} {ta : TE} {a : Addr} {ns : List Nat} (ha : Ev ta σ H (.ref a)) (hS : SqL K H a (nv ns)) (hl : ns.length ≤ 1000) :
    Ev (tLenSetN K ta) σ H (.int ((((ii ns).foldl put []).length : Nat) : Int)) := fun H1 e _ q =>
  ha H1 e _ fun H2 e2 => ⟨a, ns, rfl, ex_l (e.trans e2) hS, hl, q H2 e2⟩
/-- a whole number that the top binds -/
theorem con_mk {K : PySem.W.Frag} {h : Heap} {mg : Str → Option Value} {x : Str} {i : Int} {t : Tok} (X : K.In h) (G : h.Ns mainGlobals mg) (a : PySem.W.nsIn K mainGlobals x = some (some (.int i t))) : ∃ t, mg x = some (.int i t) := ⟨t, PySem.W.mg_of X G a⟩
theorem use {A B : Prop} (a : A) (b : A → B) : B := b a
end Nr
namespace Nr
open PySem PySem.Spec PyProof.Rows L2 Evl
/-! ### the text -/
def topS (i : Nat) : Stmt := PySem.Challenge.pw_nearestrows_s01_far.main.body.getD i (.Pass ⟨0, 0, 0, 0⟩)
abbrev sQ : Stmt := topS 3
theorem scQ : FnScope ["m"] ["m"] (defScope sQ) := ⟨rfl, rfl, rfl, by decide +kernel, rfl, by decide +kernel, by decide +kernel⟩
abbrev sC : Stmt := topS 4
theorem scC : FnScope ["m", "count", "q"] ["m"] (defScope sC) := ⟨rfl, rfl, rfl, by decide +kernel, rfl, by decide +kernel, by decide +kernel⟩
abbrev sR : Stmt := topS 5
theorem scR : FnScope ["m", "row"] ["m", "row"] (defScope sR) := ⟨rfl, rfl, rfl, by decide +kernel, rfl, by decide +kernel, by decide +kernel⟩
abbrev sA : Stmt := topS 6
theorem scA : FnScope ["row", "q"] ["row", "q"] (defScope sA) := ⟨rfl, rfl, rfl, by decide +kernel, rfl, by decide +kernel, by decide +kernel⟩
abbrev sD : Stmt := topS 7
theorem scD : FnScope ["m", "x", "y", "q"] ["m", "x", "y"] (defScope sD) := ⟨rfl, rfl, rfl, by decide +kernel, rfl, by decide +kernel, by decide +kernel⟩
abbrev sH : Stmt := topS 8
theorem scH : FnScope ["m", "x", "y"] ["m", "x", "y"] (defScope sH) := ⟨rfl, rfl, rfl, by decide +kernel, rfl, by decide +kernel, by decide +kernel⟩
abbrev sMain : Stmt := topS 9
theorem scMain : FnScope ["m", "x", "y"] ["m", "x", "y"] (defScope sMain) := ⟨rfl, rfl, rfl, by decide +kernel, rfl, by decide +kernel, by decide +kernel⟩
section
variable {P : Program} {w : World} {K : PySem.W.Frag} {mg : Str → Option Value} {base : Heap}
def spQ : Sp := fun vs H Q _ => ∃ m : Nat, vs = [.int (m : Int)] ∧ RetV (.bl (decide (1 ≤ m) && decide (m ≤ 5))) H Q
theorem svQ {H : Hp} (m : Nat) : SpV spQ [.int (m : Int)] H (.bl (decide (1 ≤ m) && decide (m ≤ 5))) := fun _ _ _ q _ => ⟨m, rfl, q⟩
theorem has_Q {tM : Tok} (S : Std K mg "questions_fit" sQ ["m"]) (gM : mg "MOST_QUESTIONS" = some (.int 5 tM)) : Has P w K mg base 1 "questions_fit" ["m"] spQ := by
  refine has_of S fun f fd F => F.ok scQ (fun vs H Q E h => ?_) (fun cdv A outer s H vs Q E hr h => ?_)
  · obtain ⟨m, rfl, _⟩ := h
    rfl
  · obtain ⟨m, rfl, k⟩ := h
    refine ⟨_, pss_one (ps_ret (pe_chain op_le op_le pe_int (pv 0) (pe_glob (v := .int 5) rfl gM ⟨_, rfl⟩))), ?_⟩
    refine s_ret (ev_is (ev_chain ev_c (ev_var rfl) rv_I0 ev_c rv_I0) ?_) k
    have e1 : decide ((1 : Int) ≤ (m : Int)) = decide (1 ≤ m) := decide_eq_decide.mpr (by omega)
    have e2 : decide ((m : Int) ≤ (5 : Int)) = decide (m ≤ 5) := decide_eq_decide.mpr (by omega)
    rw [e1, e2]
def spC : Sp := fun vs H Q _ => ∃ m : Nat, vs = [.int (m : Int)] ∧ m ≤ 5 ∧ RetV (.int ((2 ^ m : Nat) : Int)) H Q
theorem svC {H : Hp} {m : Nat} (h : m ≤ 5) : SpV spC [.int (m : Int)] H (.int ((2 ^ m : Nat) : Int)) := fun _ _ _ q _ => ⟨m, rfl, h, q⟩
theorem has_C (S : Std K mg "row_count" sC ["m"]) (zR : mg "range" = none) : Has P w K mg base 1 "row_count" ["m"] spC := by
  refine has_of S fun f fd F => F.ok scC (fun vs H Q E h => ?_) (fun cdv A outer s H vs Q E hr h => ?_)
  · obtain ⟨m, rfl, _⟩ := h
    rfl
  · obtain ⟨m, rfl, hm, k⟩ := h
    refine ⟨_, pss_cons (ps_set (i := 1) scC.nd rfl (Or.inl rfl) pe_int)
      (pss_cons (ps_for PassesOwn.never rfl (pi_range1 rfl zR (pa_cons (pv 0) pa_nil)) (pg_name (i := 2) scC.nd rfl (Or.inl rfl))
        (pss_one (ps_set (i := 1) scC.nd rfl (Or.inl rfl) (pe_op op_mul (pv 1) pe_int))))
      (pss_one (ps_ret (pv 1)))), ?_⟩
    refine q_asg ev_c fun H1 e1 => ?_
    refine q_forR1 (ea_one (ev_var rfl)) ⟨by omega, by omega⟩ (fun i σ' H' => ∃ v, σ' = [some (.int (m : Int)), some (.int ((2 ^ i : Nat) : Int)), v] ∧ Ex H H') (fun H2 e2 => ⟨none, rfl, e1.trans e2⟩) ?_ ?_
    · rintro i σ' H' hi ⟨v, rfl, e2⟩
      refine s_asg (ev_op (ev_var rfl) ev_c (rv_I (.inr ⟨by decide, by decide⟩))) fun H3 e3 => ⟨some (.int (i : Int)), ?_, e2.trans e3⟩
      have e : ((2 ^ i : Nat) : Int) * 2 = ((2 ^ (i + 1) : Nat) : Int) := by
        rw [Nat.pow_succ]
        omega
      rw [e]
      rfl
    · rintro σ' H' ⟨v, rfl, e2⟩
      rw [Int.toNat_natCast]
      exact s_ret (ev_var rfl) fun H3 e3 => k.go (e2.trans e3)
def spR : Sp := fun vs H Q _ => ∃ m r : Nat, vs = [.int (m : Int), .int (r : Int)] ∧ m ≤ 5 ∧ RetV (.bl (decide (r < 2 ^ m))) H Q
theorem svR {H : Hp} {m : Nat} (h : m ≤ 5) (r : Nat) : SpV spR [.int (m : Int), .int (r : Int)] H (.bl (decide (r < 2 ^ m))) := fun _ _ _ q _ => ⟨m, r, rfl, h, q⟩
theorem has_R (S : Std K mg "row_fits" sR ["m", "row"]) (hC : Has P w K mg base 1 "row_count" ["m"] spC) : Has P w K mg base 2 "row_fits" ["m", "row"] spR := by
  refine has_of S fun f fd F => F.ok scR (fun vs H Q E h => ?_) (fun cdv A outer s H vs Q E hr h => ?_)
  · obtain ⟨m, r, rfl, _⟩ := h
    rfl
  · obtain ⟨m, r, rfl, hm, k⟩ := h
    refine ⟨_, pss_one (ps_ret (pe_cmpR op_lt (pv 1) (pe_has hC hr (by decide) (by rfl) (pa_cons (pv 0) pa_nil)) (nomark _))), ?_⟩
    refine s_ret (ev_is (ev_op (ev_var rfl) (ev_call (ea_one (ev_var rfl)) (svC hm)) rv_I0) ?_) k
    exact congrArg V.bl (decide_eq_decide.mpr (by omega))
def spA : Sp := fun vs H Q _ => ∃ r q : Nat, vs = [.int (r : Int), .int (q : Int)] ∧ RetV (.int ((r / 2 ^ q % 2 : Nat) : Int)) H Q
theorem svA {H : Hp} (r q : Nat) : SpV spA [.int (r : Int), .int (q : Int)] H (.int ((r / 2 ^ q % 2 : Nat) : Int)) := fun _ _ _ k _ => ⟨r, q, rfl, k⟩
theorem has_A (S : Std K mg "answer_to" sA ["row", "q"]) : Has P w K mg base 1 "answer_to" ["row", "q"] spA := by
  refine has_of S fun f fd F => F.ok scA (fun vs H Q E h => ?_) (fun cdv A outer s H vs Q E hr h => ?_)
  · obtain ⟨r, q, rfl, _⟩ := h
    rfl
  · obtain ⟨r, q, rfl, k⟩ := h
    refine ⟨_, pss_one (ps_ret (pe_op op_odd (pe_op op_shrN (pv 0) (pv 1)) pe_int)), ?_⟩
    refine s_ret (ev_op (ev_op (ev_var rfl) (ev_var rfl) (rv_val fun H1 _ Q z => ⟨(r : Int), q, rfl, rfl, z⟩)) ev_c (rv_val fun H1 _ Q z => ⟨r / 2 ^ q, ?_, rfl, z⟩)) k
    refine congrArg V.int ?_
    rw [Int.natCast_ediv, Int.natCast_pow]
    rfl
def spD : Sp := fun vs H Q _ => ∃ m x y : Nat, vs = [.int (m : Int), .int (x : Int), .int (y : Int)] ∧ m ≤ 5 ∧ RetL (nv (diff m x y)) H Q
theorem svD {H : Hp} {m : Nat} (h : m ≤ 5) (x y : Nat) : SpL spD [.int (m : Int), .int (x : Int), .int (y : Int)] H (nv (diff m x y)) := fun _ _ _ k _ => ⟨m, x, y, rfl, h, k⟩
theorem has_D (S : Std K mg "questions_apart" sD ["m", "x", "y"]) (hA : Has P w K mg base 1 "answer_to" ["row", "q"] spA) (zR : mg "range" = none) : Has P w K mg base 2 "questions_apart" ["m", "x", "y"] spD := by
  refine has_of S fun f fd F => F.ok scD (fun vs H Q E h => ?_) (fun cdv A outer s H vs Q E hr h => ?_)
  · obtain ⟨m, x, y, rfl, _⟩ := h
    rfl
  · obtain ⟨m, x, y, rfl, hm, k⟩ := h
    refine ⟨_, pss_one (ps_ret
      (pe_lc (own := [("q", 3)]) (g := gName 3) rfl scD.nd (pi_range1 rfl zR (pa_cons (pv 0) pa_nil)) (blkOk_by (own := [("q", 3)]) (N := ["m", "x", "y", "q"]) (sc := defScope sD) (by decide +kernel))
        (fun _ _ _ _ _ => pg_name (i := 3) scD.nd rfl (Or.inl rfl))
        (fun _ _ _ _ _ => pts_one (pt_cmpR op_ne (pe_has hA hr (by decide) (by rfl) (pa_cons (pv 1) (pa_cons (pv 3) pa_nil))) (pe_has hA hr (by decide) (by rfl) (pa_cons (pv 2) (pa_cons (pv 3) pa_nil))) (nomark _)))
        (fun _ _ _ _ _ => pv 3))), ?_⟩
    refine s_retL (el_lcR1 (fun q => Kzi1.bit x q != Kzi1.bit y q) (fun q => .int (q : Int)) (ea_one (ev_var rfl)) ⟨by omega, by omega⟩ (fun _ => rfl) ?_ ?_) fun p H2 hp e2 h2 => RetL.go k (Ex.refl H) hp e2 ?_
    · intro q H1 _ _
      exact et_is (et_test (ev_op (ev_call (ea_two (ev_var rfl) (ev_var rfl)) (svA x q)) (ev_call (ea_two (ev_var rfl) (ev_var rfl)) (svA y q)) (rv_ne rfl))) ((by simp only [V.int.injEq] : _ = _).trans (bit_ne x y q))
    · intro q H1 _ _ _
      exact ev_var rfl
    · rw [h2]
      unfold given nv ii
      rw [List.map_map, Int.toNat_natCast]
      rfl
def spH : Sp := fun vs H Q _ => ∃ m x y : Nat, vs = [.int (m : Int), .int (x : Int), .int (y : Int)] ∧ m ≤ 5 ∧ RetV (.int ((Kzi4.far m x y : Nat) : Int)) H Q
theorem svH {H : Hp} {m : Nat} (h : m ≤ 5) (x y : Nat) : SpV spH [.int (m : Int), .int (x : Int), .int (y : Int)] H (.int ((Kzi4.far m x y : Nat) : Int)) := fun _ _ _ k _ => ⟨m, x, y, rfl, h, k⟩
theorem has_H (S : Std K mg "how_far" sH ["m", "x", "y"]) (hD : Has P w K mg base 2 "questions_apart" ["m", "x", "y"] spD) (zL : mg "len" = none) : Has P w K mg base 3 "how_far" ["m", "x", "y"] spH := by
  refine has_of S fun f fd F => F.ok scH (fun vs H Q E h => ?_) (fun cdv A outer s H vs Q E hr h => ?_)
  · obtain ⟨m, x, y, rfl, _⟩ := h
    rfl
  · obtain ⟨m, x, y, rfl, hm, k⟩ := h
    refine ⟨_, pss_one (ps_ret (pe_callB call_len_seq (by rfl) zL PySem.boot_len (pa_cons
      (pe_has hD hr (by decide) (by rfl) (pa_cons (pv 0) (pa_cons (pv 1) (pa_cons (pv 2) pa_nil)))) pa_nil))), ?_⟩
    refine s_ret (ev_is (ev_lenN (el_call (ea_three (ev_var rfl) (ev_var rfl) (ev_var rfl)) (svD hm x y))) ?_) k
    rw [nv_len]
    rfl
def spMain (_ : PySem.W.Frag) : Sp := fun vs H Q _ => ∃ m x y : Nat, vs = [.int (m : Int), .int (x : Int), .int (y : Int)] ∧ RetL ((PyKzi4.far m x y).map V.int) H Q
theorem ok_main {f : Addr} {fd : FuncData} {tR : Tok} (F : Fun K "far" "far" sMain f fd) (hQ : Has P w K mg base 1 "questions_fit" ["m"] spQ) (hR : Has P w K mg base 2 "row_fits" ["m", "row"] spR) (hH : Has P w K mg base 3 "how_far" ["m", "x", "y"] spH)
    (gN : mg "REFUSAL" = some (.int (-22) tR)) : FnOk P w K mg base CX0 4 f fd ["m", "x", "y"] (spMain K) := by
  refine F.ok scMain (fun vs H Q E h => ?_) (fun cdv A outer s H vs Q E hr h => ?_)
  · obtain ⟨m, x, y, rfl, _⟩ := h
    rfl
  · obtain ⟨m, x, y, rfl, k⟩ := h
    refine ⟨_, pss_cons (ps_if (PW.pt (pw_or (pt_not (pt_val (pe_has hQ hr (by decide) (by rfl) (pa_cons (pv 0) pa_nil))))
        (pw_or (pt_not (pt_val (pe_has hR hr (by decide) (by rfl) (pa_cons (pv 0) (pa_cons (pv 1) pa_nil)))))
        (pw_or1 (pt_not (pt_val (pe_has hR hr (by decide) (by rfl) (pa_cons (pv 0) (pa_cons (pv 2) pa_nil)))))))))
        (pss_one (ps_ret (pe_lst (pa_cons (pe_glob (v := .int (-22)) rfl gN ⟨_, rfl⟩) pa_nil)))) pss_nil)
      (pss_one (ps_ret (pe_lst (pa_cons (pe_has hH hr (by decide) (by rfl) (pa_cons (pv 0) (pa_cons (pv 1) (pa_cons (pv 2) pa_nil)))) pa_nil)))), ?_⟩
    have fit : (!(decide (1 ≤ m) && decide (m ≤ 5))) = false → m ≤ 5 := fun z => by
      simp only [Bool.not_eq_false', Bool.and_eq_true, decide_eq_true_eq] at z
      exact z.2
    refine q_when (et_or (et_not (et_B (ev_call (ea_one (ev_var rfl)) (svQ m))))
      fun z => et_or (et_not (et_B (ev_call (ea_two (ev_var rfl) (ev_var rfl)) (svR (fit z) x)))) fun _ => et_not (et_B (ev_call (ea_two (ev_var rfl) (ev_var rfl)) (svR (fit z) y)))) ?_ ?_
    · intro hb H1 e1
      refine s_retL (el_lst (ea_one ev_c) (by decide)) fun p H2 hp e2 h2 => RetL.go k e1 hp e2 ?_
      rw [h2, far_is, if_neg]
      · rfl
      · rintro ⟨h1, h2, h3, h4⟩
        simp [h1, h2, h3, h4] at hb
    · intro hb H1 e1
      simp only [Bool.or_eq_false_iff, Bool.not_eq_false', Bool.and_eq_true, decide_eq_true_eq] at hb
      obtain ⟨⟨h1, h2⟩, h3, h4⟩ := hb
      refine s_retL (el_lst (ea_one (ev_call (ea_three (ev_var rfl) (ev_var rfl) (ev_var rfl)) (svH h2 x y))) (by show 1 ≤ 100000; decide)) fun p H2 hp e2 h5 => RetL.go k e1 hp e2 ?_
      rw [h5, far_is, if_pos ⟨h1, h2, h3, h4⟩]
      rfl
end
end Nr
open PySem PySem.W PyProof.Rows
set_option maxRecDepth 100000 in
set_option maxHeartbeats 8000000 in
theorem PySem.Challenge.cw_nearestrows_s01_far_holds : PySem.Challenge.rw_nearestrows_s01_far.Holds := by
  w_on; k_headS; (case hw => exact ⟨[.int 1, .int 0, .int 0], by decide +kernel, by decide +kernel⟩)
  k_fillS
  refine L2.walk_specK (r := PySem.Challenge.rw_nearestrows_s01_far) (k := 4) (CX := L2.CX0) (ps := ["m", "x", "y"]) (sp := Nr.spMain) (by decide +kernel) rfl rfl ⟨rfl, by decide, by decide⟩ (fun w h Y => PySem.W.kIn_of Y) ?F ?S (fun _ _ _ _ z => z)
  case F =>
    intro w mg fa h Y KX G hmg
    refine' Nr.use (Nr.std_mk (x := "questions_fit") (st := Nr.sQ) (ps := ["m"]) KX G ?a ?l ?c ?k ?b) ?_
    (case a => k_is); (case l => k_is); (case c => k_is); (case k => k_is)
    (case b => exact fun _ _ _ _ _ _ us hl => match us, hl with | [_], _ => rfl)
    intro SQ
    refine' Nr.use (Nr.std_mk (x := "row_count") (st := Nr.sC) (ps := ["m"]) KX G ?a ?l ?c ?k ?b) ?_
    (case a => k_is); (case l => k_is); (case c => k_is); (case k => k_is)
    (case b => exact fun _ _ _ _ _ _ us hl => match us, hl with | [_], _ => rfl)
    intro SC
    refine' Nr.use (Nr.std_mk (x := "row_fits") (st := Nr.sR) (ps := ["m", "row"]) KX G ?a ?l ?c ?k ?b) ?_
    (case a => k_is); (case l => k_is); (case c => k_is); (case k => k_is)
    (case b => exact fun _ _ _ _ _ _ us hl => match us, hl with | [_, _], _ => rfl)
    intro SR
    refine' Nr.use (Nr.std_mk (x := "answer_to") (st := Nr.sA) (ps := ["row", "q"]) KX G ?a ?l ?c ?k ?b) ?_
    (case a => k_is); (case l => k_is); (case c => k_is); (case k => k_is)
    (case b => exact fun _ _ _ _ _ _ us hl => match us, hl with | [_, _], _ => rfl)
    intro SA
    refine' Nr.use (Nr.std_mk (x := "questions_apart") (st := Nr.sD) (ps := ["m", "x", "y"]) KX G ?a ?l ?c ?k ?b) ?_
    (case a => k_is); (case l => k_is); (case c => k_is); (case k => k_is)
    (case b => exact fun _ _ _ _ _ _ us hl => match us, hl with | [_, _, _], _ => rfl)
    intro SD
    refine' Nr.use (Nr.std_mk (x := "how_far") (st := Nr.sH) (ps := ["m", "x", "y"]) KX G ?a ?l ?c ?k ?b) ?_
    (case a => k_is); (case l => k_is); (case c => k_is); (case k => k_is)
    (case b => exact fun _ _ _ _ _ _ us hl => match us, hl with | [_, _, _], _ => rfl)
    intro SH
    refine' Nr.use (Nr.std_mk (x := "far") (st := Nr.sMain) (ps := ["m", "x", "y"]) KX G ?a ?l ?c ?k ?b) ?_
    (case a => k_is); (case l => k_is); (case c => k_is); (case k => k_is)
    (case b => exact fun _ _ _ _ _ _ us hl => match us, hl with | [_, _, _], _ => rfl)
    intro SMain
    refine' Nr.use (Nr.con_mk (x := "MOST_QUESTIONS") (i := 5) KX G ?g) ?_
    (case g => k_is)
    rintro ⟨_, gM⟩
    refine' Nr.use (Nr.con_mk (x := "REFUSAL") (i := -22) KX G ?g) ?_
    (case g => k_is)
    rintro ⟨_, gN⟩
    refine' Nr.use (PySem.W.mg_none_of (n := "range") KX G ?g) ?_
    (case g => k_is)
    intro zR
    refine' Nr.use (PySem.W.mg_none_of (n := "len") KX G ?g) ?_
    (case g => k_is)
    intro zL
    obtain ⟨f, fd, F, _, g, bt⟩ := SMain
    have e : some (Value.ref fa) = some (.ref f) := Eq.trans (Eq.symm (show mg "far" = some (.ref fa) from hmg)) g
    cases e
    exact ⟨fd, bt, fun base _ _ => Nr.ok_main F (Nr.has_Q SQ gM) (Nr.has_R SR (Nr.has_C SC zR)) (Nr.has_H SH (Nr.has_D SD (Nr.has_A SA) zR) zL) gN⟩
  case S =>
    intro K H xs a hO hwi hask hx
    obtain ⟨m, x, y, u⟩ := a
    cases hx with
    | cons h1 hx =>
      cases hx with
      | cons h2 hx =>
        cases hx with
        | cons h3 hx =>
          cases hx
          cases h1
          cases h2
          cases h3
          have q : (Codec.inInt 0 4294967295 m && (Codec.inInt 0 4294967295 x && (Codec.inInt 0 4294967295 y && true))) = true := hwi
          simp only [Bool.and_eq_true, Codec.inInt, decide_eq_true_eq] at q
          obtain ⟨⟨q1, _⟩, ⟨q2, _⟩, ⟨q3, _⟩, _⟩ := q
          have e1 := Int.toNat_of_nonneg q1
          have e2 := Int.toNat_of_nonneg q2
          have e3 := Int.toNat_of_nonneg q3
          refine ⟨m.toNat, x.toNat, y.toNat, by rw [e1, e2, e3], fun p H' _ _ hp => ?_⟩
          rw [e1, e2, e3] at hp
          exact .lst (L2.SqL.of hp) (L2.dw_ints _)
#print axioms PySem.Challenge.cw_nearestrows_s01_far_holds
