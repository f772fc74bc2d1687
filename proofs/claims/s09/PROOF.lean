import PyProof.Rows.All
import KE.OsGo
import KE.OsArgs
import PySem.Challenge.RW_partnernumbers_s09_divide
open PySem PySem.W
set_option Elab.async false
namespace My
/-- what the program asks of a part -/
abbrev mag (a : Int) : Int := if a < 0 then -a else a
theorem mag_nat (a : Int) : (a.natAbs : Int) = mag a := by unfold mag; split <;> omega
theorem two {x : List Int} (h : (x.length : Int) = 2) : x = [x.getD (Int.toNat 0) 0, x.getD (Int.toNat 1) 0] := by
  match x, h with
  | [a, b], _ => rfl
  | [], h => exact absurd h (by decide)
  | [_], h => exact absurd h (by simp)
  | _ :: _ :: _ :: r, h => exfalso; simp only [List.length_cons] at h; omega
theorem readZ_ok {x : List Int} (h : (x.length : Int) = 2) (ha : mag (x.getD (Int.toNat 0) 0) ≤ 1000000) (hb : mag (x.getD (Int.toNat 1) 0) ≤ 1000000) :
    Kzv1.readZ x = some ⟨x.getD (Int.toNat 0) 0, x.getD (Int.toNat 1) 0⟩ := by
  have e := two h
  generalize x.getD (Int.toNat 0) 0 = a at *
  generalize x.getD (Int.toNat 1) 0 = b at *
  subst e
  have k : Kzv1.okZ ⟨a, b⟩ = true := by
    unfold Kzv1.okZ Kzv1.mostN
    have := mag_nat a
    have := mag_nat b
    simp only [Bool.and_eq_true, decide_eq_true_eq]
    omega
  show (if Kzv1.okZ ⟨a, b⟩ then some (⟨a, b⟩ : Kzv1.Z) else none) = _
  rw [if_pos k]
theorem readZ_len {x : List Int} (h : (x.length : Int) ≠ 2) : Kzv1.readZ x = none := by
  match x, h with
  | [a, b], h => exact absurd rfl h
  | [], _ => rfl
  | [_], _ => rfl
  | _ :: _ :: _ :: r, _ => rfl
theorem readZ_bad {x : List Int} (h : (x.length : Int) = 2) (hab : ¬ (mag (x.getD (Int.toNat 0) 0) ≤ 1000000 ∧ mag (x.getD (Int.toNat 1) 0) ≤ 1000000)) :
    Kzv1.readZ x = none := by
  have e := two h
  generalize x.getD (Int.toNat 0) 0 = a at *
  generalize x.getD (Int.toNat 1) 0 = b at *
  subst e
  have k : ¬ Kzv1.okZ ⟨a, b⟩ = true := by
    unfold Kzv1.okZ Kzv1.mostN
    have := mag_nat a
    have := mag_nat b
    simp only [Bool.and_eq_true, decide_eq_true_eq]
    omega
  show (if Kzv1.okZ ⟨a, b⟩ then some (⟨a, b⟩ : Kzv1.Z) else none) = _
  rw [if_neg k]
theorem readZ_bad1 {x : List Int} (h : (x.length : Int) = 2) (ha : ¬ mag (x.getD (Int.toNat 0) 0) ≤ 1000000) : Kzv1.readZ x = none :=
  readZ_bad h fun k => ha k.1
theorem readZ_bad2 {x : List Int} (h : (x.length : Int) = 2) (hb : ¬ mag (x.getD (Int.toNat 1) 0) ≤ 1000000) : Kzv1.readZ x = none :=
  readZ_bad h fun k => hb k.2
theorem okM_yes {m : Int} (h1 : 1 ≤ m) (h4 : m ≤ 4) : Kzv1.okM m.toNat = true := by
  unfold Kzv1.okM
  simp only [Bool.and_eq_true, decide_eq_true_eq]
  omega
theorem okM_no {m : Int} (h : ¬ (1 ≤ m ∧ m ≤ 4)) : Kzv1.okM m.toNat = false := by
  unfold Kzv1.okM
  cases e : decide (1 ≤ m.toNat) && decide (m.toNat ≤ 4) with
  | false => rfl
  | true =>
    simp only [Bool.and_eq_true, decide_eq_true_eq] at e
    omega

/-- the program's tests, as the walk joins their ways -/
abbrev fitsM (m : Int) : Bool := if 1 ≤ m then decide (m ≤ 4) else decide (1 ≤ m)
abbrev fitsZ (x : List Int) : Bool :=
  if ¬ (x.length : Int) = 2 then false
  else if mag (x.getD (Int.toNat 0) 0) ≤ 1000000 then decide (mag (x.getD (Int.toNat 1) 0) ≤ 1000000)
  else decide (mag (x.getD (Int.toNat 0) 0) ≤ 1000000)
theorem m_lo {m : Int} (h : fitsM m = true) : 1 ≤ m := by
  unfold fitsM at h
  split at h
  · assumption
  · exact of_decide_eq_true h
theorem m_hi {m : Int} (h : fitsM m = true) : m ≤ 4 := by
  unfold fitsM at h
  split at h
  · exact of_decide_eq_true h
  · rename_i k
    exact absurd (of_decide_eq_true h) k
theorem m_no {m : Int} (h : fitsM m = false) : ¬ (1 ≤ m ∧ m ≤ 4) := by
  intro k
  unfold fitsM at h
  rw [if_pos k.1] at h
  exact of_decide_eq_false h k.2
theorem z_yes {x : List Int} (h : fitsZ x = true) : Kzv1.readZ x = some ⟨x.getD (Int.toNat 0) 0, x.getD (Int.toNat 1) 0⟩ := by
  unfold fitsZ at h
  by_cases l : (x.length : Int) = 2
  · rw [if_neg (fun k => k l)] at h
    by_cases a : mag (x.getD (Int.toNat 0) 0) ≤ 1000000
    · rw [if_pos a] at h
      exact readZ_ok l a (of_decide_eq_true h)
    · rw [if_neg a] at h
      exact absurd (of_decide_eq_true h) a
  · rw [if_pos l] at h
    cases h
theorem z_no {x : List Int} (h : fitsZ x = false) : Kzv1.readZ x = none := by
  unfold fitsZ at h
  by_cases l : (x.length : Int) = 2
  · rw [if_neg (fun k => k l)] at h
    by_cases a : mag (x.getD (Int.toNat 0) 0) ≤ 1000000
    · rw [if_pos a] at h
      exact readZ_bad2 l (of_decide_eq_false h)
    · exact readZ_bad1 l a
  · exact readZ_len l

theorem mod_iff {a n : Int} : a.fmod n = 0 ↔ a % n = 0 := by
  rw [← Int.dvd_iff_fmod_eq_zero, Int.dvd_iff_emod_eq_zero]
theorem div_is {a n : Int} (h : a % n = 0) : a.fdiv n = a / n :=
  Int.fdiv_eq_ediv_of_dvd (Int.dvd_of_emod_eq_zero h)
theorem divide_m {m : Int} {x y : List Int} (h : ¬ (1 ≤ m ∧ m ≤ 4)) : PyKzv1.divide m x y = [-22] := by
  show (let a := Kzv1.answer (.divide m.toNat x y); a.value :: a.nums) = _
  simp only [Kzv1.answer, okM_no h, if_true, Kzv1.say]
theorem divide_x {m : Int} {x y : List Int} (h1 : 1 ≤ m) (h4 : m ≤ 4) (h : Kzv1.readZ x = none) : PyKzv1.divide m x y = [-22] := by
  show (let a := Kzv1.answer (.divide m.toNat x y); a.value :: a.nums) = _
  simp only [Kzv1.answer, okM_yes h1 h4, Kzv1.withZ, h, Kzv1.say]
  try rfl
theorem divide_y {m : Int} {x y : List Int} {v : Kzv1.Z} (h1 : 1 ≤ m) (h4 : m ≤ 4) (h : Kzv1.readZ x = some v) (hy : Kzv1.readZ y = none) : PyKzv1.divide m x y = [-22] := by
  show (let a := Kzv1.answer (.divide m.toNat x y); a.value :: a.nums) = _
  simp only [Kzv1.answer, okM_yes h1 h4, Kzv1.withZ, h, hy, Kzv1.say]
  try rfl
/-- the quotient, its parts by themselves -/
theorem quot_eq {m a b c d : Int} (h1 : 1 ≤ m) : Kzv1.quotient m.toNat ⟨a, b⟩ ⟨c, d⟩ =
    if c * c + m * c * d - d * d = 0 then none
    else if (a * (c + m * d) + b * -d) % (c * c + m * c * d - d * d) = 0 ∧ (a * -d + b * (c + m * d) + m * (b * -d)) % (c * c + m * c * d - d * d) = 0 then
      some ⟨(a * (c + m * d) + b * -d) / (c * c + m * c * d - d * d), (a * -d + b * (c + m * d) + m * (b * -d)) / (c * c + m * c * d - d * d)⟩
    else none := by
  have em : ((m.toNat : Nat) : Int) = m := Int.toNat_of_nonneg (by omega)
  have e : c * (c + m * d) + d * -d = c * c + m * c * d - d * d := by grind
  unfold Kzv1.quotient
  simp only [Kzv1.norm, Kzv1.mul, Kzv1.partner, em, e]
theorem divide_no {m : Int} {x y : List Int} {v u : Kzv1.Z} (h1 : 1 ≤ m) (h4 : m ≤ 4) (h : Kzv1.readZ x = some v) (hy : Kzv1.readZ y = some u) (q : Kzv1.quotient m.toNat v u = none) : PyKzv1.divide m x y = [-33] := by
  show (let a := Kzv1.answer (.divide m.toNat x y); a.value :: a.nums) = _
  simp only [Kzv1.answer, okM_yes h1 h4, Kzv1.withZ, h, hy, q, Kzv1.say]
  try rfl
theorem divide_yes {m : Int} {x y : List Int} {v u : Kzv1.Z} {e f : Int} (h1 : 1 ≤ m) (h4 : m ≤ 4) (h : Kzv1.readZ x = some v) (hy : Kzv1.readZ y = some u) (q : Kzv1.quotient m.toNat v u = some ⟨e, f⟩) : PyKzv1.divide m x y = [0, e, f] := by
  show (let a := Kzv1.answer (.divide m.toNat x y); a.value :: a.nums) = _
  simp only [Kzv1.answer, okM_yes h1 h4, Kzv1.withZ, h, hy, q, Kzv1.tell]
  try rfl
theorem divide_0 {m : Int} {x y : List Int} {a b c d : Int} (h1 : 1 ≤ m) (h4 : m ≤ 4) (h : Kzv1.readZ x = some ⟨a, b⟩) (hy : Kzv1.readZ y = some ⟨c, d⟩)
    (n0 : c * c + m * c * d - d * d = 0) : PyKzv1.divide m x y = [-33] :=
  divide_no h1 h4 h hy (by rw [quot_eq h1, if_pos n0])
theorem divide_a {m : Int} {x y : List Int} {a b c d : Int} (h1 : 1 ≤ m) (h4 : m ≤ 4) (h : Kzv1.readZ x = some ⟨a, b⟩) (hy : Kzv1.readZ y = some ⟨c, d⟩)
    (r : (a * (c + m * d) + b * -d).fmod (c * c + m * c * d - d * d) ≠ 0) : PyKzv1.divide m x y = [-33] :=
  divide_no h1 h4 h hy (by
    rw [quot_eq h1]
    split
    · rfl
    · rw [if_neg fun k => r (mod_iff.mpr k.1)])
theorem divide_b {m : Int} {x y : List Int} {a b c d : Int} (h1 : 1 ≤ m) (h4 : m ≤ 4) (h : Kzv1.readZ x = some ⟨a, b⟩) (hy : Kzv1.readZ y = some ⟨c, d⟩)
    (r : (a * -d + b * (c + m * d) + m * (b * -d)).fmod (c * c + m * c * d - d * d) ≠ 0) : PyKzv1.divide m x y = [-33] :=
  divide_no h1 h4 h hy (by
    rw [quot_eq h1]
    split
    · rfl
    · rw [if_neg fun k => r (mod_iff.mpr k.2)])
theorem divide_z {m : Int} {x y : List Int} {a b c d : Int} (h1 : 1 ≤ m) (h4 : m ≤ 4) (h : Kzv1.readZ x = some ⟨a, b⟩) (hy : Kzv1.readZ y = some ⟨c, d⟩)
    (n0 : c * c + m * c * d - d * d ≠ 0)
    (ra : (a * (c + m * d) + b * -d).fmod (c * c + m * c * d - d * d) = 0)
    (rb : (a * -d + b * (c + m * d) + m * (b * -d)).fmod (c * c + m * c * d - d * d) = 0) :
    PyKzv1.divide m x y = [0, (a * (c + m * d) + b * -d).fdiv (c * c + m * c * d - d * d), (a * -d + b * (c + m * d) + m * (b * -d)).fdiv (c * c + m * c * d - d * d)] := by
  rw [div_is (mod_iff.mp ra), div_is (mod_iff.mp rb)]
  exact divide_yes h1 h4 h hy (by rw [quot_eq h1, if_neg n0, if_pos ⟨mod_iff.mp ra, mod_iff.mp rb⟩])
theorem said : PySem.Challenge.rw_partnernumbers_s09_divide.wellSaid = true := by decide +kernel
theorem fin {m : Int} {x y ans : List Int} (hp : PySem.Challenge.rw_partnernumbers_s09_divide.pre [WData.int m, ofPy (PyData.list (x.map PyData.int)), ofPy (PyData.list (y.map PyData.int))] = true)
    (h : PyKzv1.divide m x y = ans) :
    PySem.Challenge.rw_partnernumbers_s09_divide.post [WData.int m, ofPy (PyData.list (x.map PyData.int)), ofPy (PyData.list (y.map PyData.int))] (ofPy (PyData.list (ans.map PyData.int))) = true := by
  obtain ⟨a, w, q, e⟩ := os_pre said hp
  rw [e]
  refine os_shut said w ?_
  obtain ⟨m', x', y', u⟩ := a
  have e1 := os_j_int (List.cons.inj e).1
  have e2 := os_j_ints (List.cons.inj (List.cons.inj e).2).1
  have e3 := os_j_ints (List.cons.inj (List.cons.inj (List.cons.inj e).2).2).1
  subst e1 e2 e3
  subst h
  exact os_list rfl
end My
set_option maxRecDepth 100000 in
set_option maxHeartbeats 8000000 in
theorem PySem.Challenge.cw_partnernumbers_s09_divide_holds : PySem.Challenge.rw_partnernumbers_s09_divide.Holds := by
  open_ks with [.int 0, .list [], .list []]
  all_goals first
    | exact My.fin (ans := [-22]) hpre (My.divide_m (My.m_no (by assumption)))
    | exact My.fin (ans := [-22]) hpre (My.divide_x (My.m_lo (by assumption)) (My.m_hi (by assumption)) (My.z_no (by assumption)))
    | exact My.fin (ans := [-22]) hpre (My.divide_y (My.m_lo (by assumption)) (My.m_hi (by assumption)) (My.z_yes (by assumption)) (My.z_no (by assumption)))
    | exact My.fin (ans := [-33]) hpre (My.divide_0 (My.m_lo (by assumption)) (My.m_hi (by assumption)) (My.z_yes (by assumption)) (My.z_yes (by assumption)) (by assumption))
    | exact My.fin (ans := [-33]) hpre (My.divide_a (My.m_lo (by assumption)) (My.m_hi (by assumption)) (My.z_yes (by assumption)) (My.z_yes (by assumption)) (by assumption))
    | exact My.fin (ans := [-33]) hpre (My.divide_b (My.m_lo (by assumption)) (My.m_hi (by assumption)) (My.z_yes (by assumption)) (My.z_yes (by assumption)) (by assumption))
    | exact My.fin (ans := _) hpre (My.divide_z (My.m_lo (by assumption)) (My.m_hi (by assumption)) (My.z_yes (by assumption)) (My.z_yes (by assumption)) (by assumption) (by assumption) (by assumption))
#print axioms PySem.Challenge.cw_partnernumbers_s09_divide_holds
