import PyProof.Rows.All
import KE.OsGo
import KE.OsArgs
import PySem.Challenge.RW_partnernumbers_s08_unit
open PySem PySem.W
set_option Elab.async false
namespace My
section
open PySem.Calls PyProof.Rows PyProof.V PySem.Spec
variable {prog : Program} {w : World} {A : Around} {E : Value → Shared → Prop} {s : Shared} {env : Env} {h0 : Heap} {x : Str} {body : List Stmt} {Q : Flow → Shared → Prop}
theorem loop {r : Addr} {b0 : Int} {t0 u0 v0 : Tok} {p : Str} {rest : Str → Option Value} {l : Addr} {i j : Int} {t u : Tok} {n : Nat} {l2 : Addr} {o2 : Obj} (P : List Int → Int → Int → Prop)
    (hh : A.handled = none) (hr : IsRange s.heap r 0 b0 1 t0 u0 v0) (k0 : 0 ≤ b0) (k60 : ¬ 60 < b0)
    (F : Fr h0 env.locals s.heap (fun y => if y = p then some (.ref l) else rest y))
    (N : News h0 env.locals s.heap [(l, W.listOf #[.int i t, .int j u] n), (l2, o2)])
    (hp : P [] i j)
    (turn : ∀ (l' : Addr) (a b : Int) (ta tb : Tok) (nn : Nat) (tl : List (Addr × Obj)) (pre : List Int) (k : Int) (tt : Tok) (h : Heap) (tk : Nat) (own : List (Addr × Obj)),
      pre.length < b0.toNat → KdSep own tl [l, l2] → OwnOff (tl ++ own) [l, l2] →
      (l', W.listOf [Value.int a ta, Value.int b tb].toArray nn) ∈ (l, W.listOf #[.int i t, .int j u] n) :: (l2, o2) :: (tl ++ own) → P pre a b →
      Fr h0 env.locals h (fun y => if y = x then some (.int k tt) else if y = p then some (.ref l') else rest y) →
      News h0 env.locals h ((l, W.listOf #[.int i t, .int j u] n) :: (l2, o2) :: (tl ++ own)) →
      wpAny (model prog w) A (execs body env) (InvPostG h0 env.locals (KdS (σ := Value × Dat) (fun _ => []) [(l, W.listOf #[.int i t, .int j u] n), (l2, o2)] (fun c => [(p, c.1)]) (fun L9 c => DatIn L9 c.1 c.2) x [] (fun y => if y = p then some (.ref l) else rest y) (fun pre c => ∃ a b, c.2 = Dat.list [Dat.int a, Dat.int b] ∧ P pre a b) [l, l2] (pre ++ [k])) own { s with heap := h, toks := tk } Q) E { s with heap := h, toks := tk })
    (done : ∀ (l' : Addr) (a b : Int) (ta tb : Tok) (nn : Nat) (tl : List (Addr × Obj)) (v : Option Value) (h : Heap) (tk : Nat),
      OwnOff tl [l, l2] → (l', W.listOf [Value.int a ta, Value.int b tb].toArray nn) ∈ (l, W.listOf #[.int i t, .int j u] n) :: (l2, o2) :: tl → P (rangeKs 0 b0.toNat) a b →
      Fr h0 env.locals h (fun y => if y = x then v else if y = p then some (.ref l') else rest y) →
      News h0 env.locals h ((l, W.listOf #[.int i t, .int j u] n) :: (l2, o2) :: tl) → Q .next { s with heap := h, toks := tk }) :
    wpAny (model prog w) A (pyIter (.ref r)) (fun it s2 => LoopAtV prog w A h0 env x body Q E it s2) E s := by
  have eF : ∀ (q : Str → Option Value) (v : Value), (kstB (fun z => if ([] : List Str).contains z then q z else (fun y => if y = p then some (Value.ref l) else rest y) z) [(p, v)]) = fun y => if y = p then some v else rest y := by
    intro q v
    funext y
    show (if y = p then some v else if ([] : List Str).contains y = true then q y else if y = p then some (Value.ref l) else rest y) = _
    by_cases e : y = p
    · rw [if_pos e, if_pos e]
    · rw [if_neg e, if_neg e, if_neg e, if_neg (show ¬ ([] : List Str).contains y = true from fun k => nomatch k)]
  have op : ∀ {L9 : List (Addr × Obj)} {v : Value} {a b : Int}, DatIn L9 v (Dat.list [Dat.int a, Dat.int b]) → ∃ l' ta tb nn, v = .ref l' ∧ (l', W.listOf [Value.int a ta, Value.int b tb].toArray nn) ∈ L9 := by
    intro L9 v a b hd
    cases hd with
    | list hm ha =>
      cases ha with
      | cons h1 h2 =>
        cases h1
        cases h2 with
        | cons h3 h4 =>
          cases h3
          cases h4
          exact ⟨_, _, _, _, rfl, hm⟩
  refine kd_range (σ := Value × Dat) (n := b0.toNat) (fun _ => []) [(l, W.listOf #[.int i t, .int j u] n), (l2, o2)] (fun c => [(p, c.1)]) (fun L9 c => DatIn L9 c.1 c.2) []
    (fun pre c => ∃ a b, c.2 = Dat.list [Dat.int a, Dat.int b] ∧ P pre a b) [l, l2] (.ref l, Dat.list [Dat.int i, Dat.int j]) hh hr (small_one (by omega) (by omega) (by omega) (by omega)) ?_ F N ?_ ?_ ?_ ?_ ?_ ?_ ?_
  · have e := rangeSize_nat 0 b0
    rw [e]
    congr 1
    omega
  · intro q hq
    simpa using hq
  · intro c
    rfl
  · exact DatIn.list (vs := [Value.int i t, Value.int j u]) (.head _) (.cons (.int _ _) (.cons (.int _ _) .nil))
  · intro q hq
    rcases List.mem_singleton.mp hq with rfl
    exact if_pos rfl
  · exact ⟨i, j, rfl, hp⟩
  · rintro ⟨v, d⟩ tl pre k tt q h tk own _ hlt hs ho hf ⟨a, b, rfl, hP⟩ F1 N1
    obtain ⟨l', ta, tb, nn, rfl, hm⟩ := op hf
    rw [eF q (.ref l')] at F1
    exact turn l' a b ta tb nn tl pre k tt h tk own hlt hs ho (by
      have q : (l', W.listOf [Value.int a ta, Value.int b tb].toArray nn) ∈ ([(l, W.listOf #[.int i t, .int j u] n), (l2, o2)] ++ tl) ++ own := List.mem_append.mpr (.inl hm)
      rw [List.append_assoc] at q
      exact q) hP F1 N1
  · rintro ⟨v, d⟩ tl q h tk ho hf ⟨a, b, rfl, hP⟩ F1 N1
    obtain ⟨l', ta, tb, nn, rfl, hm⟩ := op hf
    rw [eF q (.ref l')] at F1
    have F2 : Fr h0 env.locals h (fun y => if y = x then q x else if y = p then some (.ref l') else rest y) := by
      have e : (fun y => if y = x then q x else if y = p then some (Value.ref l') else rest y) = fun y => if y = x then q y else (fun y => if y = p then some (Value.ref l') else rest y) y := by
        funext y
        by_cases e : y = x
        · rw [if_pos e, if_pos e, e]
        · rw [if_neg e, if_neg e]
      rw [e]
      exact F1
    exact done l' a b ta tb nn tl (q x) h tk ho hm hP F2 N1
end
section
open PySem.Calls PyProof.Rows PyProof.V PySem.Spec
variable {prog : Program} {w : World} {A : Around} {E : Value → Shared → Prop} {s : Shared} {h0 : Heap} {L l : Addr}
theorem item {value slice : PySem.Expr} {news : List (Addr × Obj)} {us : List Value} {n : Nat} {k : Int} {u : Tok} {v : Value} {Q : Value → Shared → Prop} (N : News h0 L s.heap news) (hm : (l, W.listOf us.toArray n) ∈ news)
    (k0 : 0 ≤ k) (k1 : k < 2 ^ 63) (hx : us[k.toNat]? = some v) (h : Q v s)
    (hs : subscripted slice false (.ref l) (.int k u) = operate [.ref l, .int k u] (getItem (.ref l) (.int k u)) := by with_unfolding_all rfl) :
    wpAny (model prog w) A (subscriptTail value slice (.ref l) (.int k u)) Q E s := by
  have hl : s.heap.IsList l us.toArray := ⟨_, (N _ hm).1, rfl, n, rfl⟩
  exact tail_any hl.typeIs slot_list_getitem.lookup (wpAny_getItem_list hl k0 k1 (by simpa using hx) h) hs
end
section
variable {prog : Program} {w : World} {A : Around} {E : Value → Shared → Prop} {s : Shared} {x y : Int} {t u : Tok} {Q : Value → Shared → Prop}
theorem mul_r (lo : -100000 ≤ y) (hi : y ≤ 100000) (h : Q (.int (x * y) s.toks) { s with toks := s.toks + 1 }) :
    wpAny (model prog w) A (binaryOp .Mult (.int x t) (.int y u)) Q E s :=
  PyProof.Rows.mul_int h (PySem.IntMulOk.of_right (PySem.intBits_le_64 (by omega) (by omega)))
theorem mul_l (lo : -100000 ≤ x) (hi : x ≤ 100000) (h : Q (.int (x * y) s.toks) { s with toks := s.toks + 1 }) :
    wpAny (model prog w) A (binaryOp .Mult (.int x t) (.int y u)) Q E s :=
  PyProof.Rows.mul_int h (PySem.IntMulOk.of_left (PySem.intBits_le_64 (by omega) (by omega)))
end
theorem okM_yes {m : Int} (h1 : 1 ≤ m) (h4 : m ≤ 4) : Kzv1.okM m.toNat = true := by
  unfold Kzv1.okM
  simp only [Bool.and_eq_true, decide_eq_true_eq]
  omega
theorem okM_no {m : Int} (h : ¬ (1 ≤ m ∧ m ≤ 4)) : Kzv1.okM m.toNat = false := by
  unfold Kzv1.okM
  cases e : decide (1 ≤ m.toNat) && decide (m.toNat ≤ 4) with
  | false => rfl
  | true =>
    simp only [Bool.and_eq_true, decide_eq_true_eq] at e
    omega
structure Up {m s : Int} (h1 : 1 ≤ m) (h0 : s = 0) (pre : List Int) (a b : Int) : Prop where
  a : a = (Kzv1.pow m.toNat pre.length).a
  b : b = (Kzv1.pow m.toNat pre.length).b
structure Down {m s : Int} (h1 : 1 ≤ m) (h0 : ¬ s = 0) (pre : List Int) (a b : Int) : Prop where
  a : a = (Kzv1.powDown m.toNat pre.length).a
  b : b = (Kzv1.powDown m.toNat pre.length).b
theorem up_turn {m s : Int} {h1 : 1 ≤ m} {h0 : s = 0} {pre : List Int} {a b k : Int} (i : Up h1 h0 pre a b) :
    Up h1 h0 (pre ++ [k]) (a * 0 + b * 1) (a * 1 + b * 0 + m * (b * 1)) := by
  have em : ((m.toNat : Nat) : Int) = m := Int.toNat_of_nonneg (by omega)
  have e : Kzv1.pow m.toNat (pre ++ [k]).length = Kzv1.mul m.toNat (Kzv1.pow m.toNat pre.length) Kzv1.w := by
    rw [List.length_append]
    rfl
  constructor
  · rw [e, i.a, i.b]; rfl
  · rw [e, i.a, i.b]
    simp only [Kzv1.mul, Kzv1.w, em]
theorem down_turn {m s : Int} {h1 : 1 ≤ m} {h0 : ¬ s = 0} {pre : List Int} {a b k : Int} (i : Down h1 h0 pre a b) :
    Down h1 h0 (pre ++ [k]) (a * -m + b * 1) (a * 1 + b * -m + m * (b * 1)) := by
  have em : ((m.toNat : Nat) : Int) = m := Int.toNat_of_nonneg (by omega)
  have e : Kzv1.powDown m.toNat (pre ++ [k]).length = Kzv1.mul m.toNat (Kzv1.powDown m.toNat pre.length) ⟨-((m.toNat : Nat) : Int), 1⟩ := by
    rw [List.length_append]
    rfl
  constructor
  · rw [e, i.a, i.b]
    simp only [Kzv1.mul, em]
  · rw [e, i.a, i.b]
    simp only [Kzv1.mul, em]
theorem unit_m {m s k : Int} (h : ¬ (1 ≤ m ∧ m ≤ 4)) : PyKzv1.unit m s k = [-22] := by
  show (let a := Kzv1.answer (.unit m.toNat s.toNat k.toNat); a.value :: a.nums) = _
  simp only [Kzv1.answer]
  rw [if_pos (Or.inl (okM_no h))]
  rfl
theorem unit_s {m s k : Int} (h : 1 < s) : PyKzv1.unit m s k = [-22] := by
  show (let a := Kzv1.answer (.unit m.toNat s.toNat k.toNat); a.value :: a.nums) = _
  simp only [Kzv1.answer]
  rw [if_pos (Or.inr (Or.inl (by omega)))]
  rfl
theorem unit_k {m s k : Int} (h : 60 < k) : PyKzv1.unit m s k = [-22] := by
  show (let a := Kzv1.answer (.unit m.toNat s.toNat k.toNat); a.value :: a.nums) = _
  simp only [Kzv1.answer]
  rw [if_pos (Or.inr (Or.inr (by omega)))]
  rfl
theorem unit_up {m s k a b : Int} {l : List Int} {h1 : 1 ≤ m} {h0 : s = 0} (h4 : m ≤ 4) (k60 : ¬ 60 < k) (n : l.length = k.toNat) (i : Up h1 h0 l a b) : PyKzv1.unit m s k = [0, a, b] := by
  show (let a := Kzv1.answer (.unit m.toNat s.toNat k.toNat); a.value :: a.nums) = _
  have no : ¬ (Kzv1.okM m.toNat = false ∨ 1 < s.toNat ∨ 60 < k.toNat) := by
    rw [okM_yes h1 h4]
    rintro (q | q | q)
    · cases q
    · omega
    · omega
  have e : Kzv1.unit m.toNat (if s.toNat = 0 then ((k.toNat : Nat) : Int) else -((k.toNat : Nat) : Int)) = Kzv1.pow m.toNat k.toNat := by
    rw [if_pos (by omega)]
    unfold Kzv1.unit
    rw [if_pos (Int.natCast_nonneg _), Int.toNat_natCast]
  simp only [Kzv1.answer]
  rw [if_neg no, e]
  have ia := i.a
  have ib := i.b
  rw [n] at ia ib
  rw [ia, ib]
  rfl
theorem unit_down {m s k a b : Int} {l : List Int} {h1 : 1 ≤ m} {h0 : ¬ s = 0} (h4 : m ≤ 4) (s0 : 0 ≤ s) (s1 : ¬ 1 < s) (k60 : ¬ 60 < k) (n : l.length = k.toNat) (i : Down h1 h0 l a b) : PyKzv1.unit m s k = [0, a, b] := by
  show (let a := Kzv1.answer (.unit m.toNat s.toNat k.toNat); a.value :: a.nums) = _
  have no : ¬ (Kzv1.okM m.toNat = false ∨ 1 < s.toNat ∨ 60 < k.toNat) := by
    rw [okM_yes h1 h4]
    rintro (q | q | q)
    · cases q
    · omega
    · omega
  have e : Kzv1.unit m.toNat (if s.toNat = 0 then ((k.toNat : Nat) : Int) else -((k.toNat : Nat) : Int)) = Kzv1.powDown m.toNat k.toNat := by
    rw [if_neg (by omega)]
    unfold Kzv1.unit
    by_cases z : k.toNat = 0
    · rw [z]; rfl
    · rw [if_neg (by omega), Int.natAbs_neg, Int.natAbs_natCast]
  simp only [Kzv1.answer]
  rw [if_neg no, e]
  have ia := i.a
  have ib := i.b
  rw [n] at ia ib
  rw [ia, ib]
  rfl
theorem said : PySem.Challenge.rw_partnernumbers_s08_unit.wellSaid = true := by decide +kernel
theorem bounds {m s k : Int} (hp : PySem.Challenge.rw_partnernumbers_s08_unit.pre [WData.int m, WData.int s, WData.int k] = true) : 0 ≤ m ∧ 0 ≤ s ∧ 0 ≤ k := by
  obtain ⟨a, w, q, e⟩ := os_pre said hp
  obtain ⟨m', s', k', u⟩ := a
  have e1 := os_j_int (List.cons.inj e).1
  have e2 := os_j_int (List.cons.inj (List.cons.inj e).2).1
  have e3 := os_j_int (List.cons.inj (List.cons.inj (List.cons.inj e).2).2).1
  subst e1 e2 e3
  clear q e hp
  have w1 : ((decide ((0 : Int) ≤ m) && decide (m ≤ 4294967295)) && ((decide ((0 : Int) ≤ s) && decide (s ≤ 4294967295)) && ((decide ((0 : Int) ≤ k) && decide (k ≤ 4294967295)) && true))) = true := w
  simp only [Bool.and_eq_true, decide_eq_true_eq] at w1
  omega
theorem fin {m s k : Int} {ans : List Int} (hp : PySem.Challenge.rw_partnernumbers_s08_unit.pre [WData.int m, WData.int s, WData.int k] = true)
    (h : PyKzv1.unit m s k = ans) :
    PySem.Challenge.rw_partnernumbers_s08_unit.post [WData.int m, WData.int s, WData.int k] (ofPy (PyData.list (ans.map PyData.int))) = true := by
  obtain ⟨a, w, q, e⟩ := os_pre said hp
  rw [e]
  refine os_shut said w ?_
  obtain ⟨m', s', k', u⟩ := a
  have e1 := os_j_int (List.cons.inj e).1
  have e2 := os_j_int (List.cons.inj (List.cons.inj e).2).1
  have e3 := os_j_int (List.cons.inj (List.cons.inj (List.cons.inj e).2).2).1
  subst e1 e2 e3
  subst h
  exact os_list rfl
end My
set_option maxRecDepth 100000 in
set_option maxHeartbeats 8000000 in
theorem PySem.Challenge.cw_partnernumbers_s08_unit_holds : PySem.Challenge.rw_partnernumbers_s08_unit.Holds := by
  (k_with "state" => ( first | exact ⟨_, _, rfl, My.up_turn (by assumption)⟩ | exact ⟨_, _, rfl, My.down_turn (by assumption)⟩))
  (k_with "subscriptTail Name Constant ref int" => (
     (k_here);
     (with_reducible show wpAny _ _ (PyProof.Rows.subscriptTail _ _ (Value.ref _) (Value.int _ _)) _ _ _);
     (with_unfolding_all refine' My.item ?k1 ?k2 ?k3 ?k4 ?k5 ?_ ?k7);
     (case k1 => k_asm);
     (case k2 => (with_reducible assumption));
     (case k3 => decide);
     (case k4 => decide);
     (case k5 => (with_unfolding_all rfl));
     (case k7 => (with_unfolding_all rfl));
     (k_whole)))
  (k_with "binaryOp Mult int int" => (
     (k_here);
     (first
      | ((with_reducible refine' My.mul_r ?k1 ?k2 ?_); (case k1 => k_dflt (simp only [Int.toNat_zero, Int.toNat_one, List.getD_cons_zero, List.getD_cons_succ]; omega)); (case k2 => k_dflt (simp only [Int.toNat_zero, Int.toNat_one, List.getD_cons_zero, List.getD_cons_succ]; omega)))
      | ((with_reducible refine' My.mul_l ?k1 ?k2 ?_); (case k1 => k_dflt omega); (case k2 => k_dflt omega)))))
  (k_with "pyIter ref" => (
     (with_reducible show wpAny _ _ (pyIter (Value.ref _)) (fun it s₂ => PyProof.Rows.LoopAtV _ _ _ _ _ _ _ _ _ it s₂) _ _);
     k_here; 
     (rename PyProof.Rows.Fr _ _ _ _ => lF0);
     (rename PyProof.Rows.News _ _ _ _ => lN0);
     (rename IsRange _ _ _ _ _ _ _ _ => rg0);
     (with_reducible rename (1 : Int) ≤ _ => hm1);
     (with_reducible rename ¬ (60 : Int) < _ => hk60);
     (with_reducible rename PySem.W.OpenSpec.pre _ _ = true => hp0);
     (have hk0 := (My.bounds hp0).2.2); 
     (first
     | ((with_reducible rename (_ : Int) = 0 => hs0);  (with_unfolding_all refine' My.loop (My.Up hm1 hs0) (by rfl) rg0 hk0 hk60 lF0 lN0 ?up1 ?_ ?_); (case up1 => exact ⟨rfl, rfl⟩))
     | ((with_reducible rename ¬ (_ : Int) = 0 => hs0);  (with_unfolding_all refine' My.loop (My.Down hm1 hs0) (by rfl) rg0 hk0 hk60 lF0 lN0 ?up1 ?_ ?_); (case up1 => exact ⟨rfl, rfl⟩))); 
     (clear lF0 lN0);
     (all_goals (have kMark := kstMark; have kMark2 := kdMark));
     (all_goals first
       | (intro kL kA kB kTa kTb kNn kTl kPre kN kT kH kTk kOwn kLt kSep kO4 kMem kInv kFr kNews)
       | (intro kL kA kB kTa kTb kNn kTl kV kH kTk kO3 kMem kInv kFr kNews)); 
     (all_goals (try k_fold))))
  open_ks with [.int 0, .int 0, .int 0]
  all_goals first
    | exact My.fin (ans := [-22]) hpre (My.unit_m fun k => absurd k.1 (by assumption))
    | exact My.fin (ans := [-22]) hpre (My.unit_m fun k => absurd k.2 (by assumption))
    | exact My.fin (ans := [-22]) hpre (My.unit_s (by assumption))
    | exact My.fin (ans := [-22]) hpre (My.unit_k (by assumption))
    | exact My.fin (ans := _) hpre (My.unit_up (by assumption) (by assumption) (rangeKs_length _ _) (by assumption))
    | exact My.fin (ans := _) hpre (My.unit_down (by assumption) (My.bounds hpre).2.1 (by assumption) (by assumption) (rangeKs_length _ _) (by assumption))
#print axioms PySem.Challenge.cw_partnernumbers_s08_unit_holds
