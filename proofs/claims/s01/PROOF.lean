import PyProof.Rows.All
import KE.OsGo
import KE.OsArgs
import PySem.Challenge.RW_partnernumbers_s01_sign
open PySem PySem.W
set_option Elab.async false
namespace My
theorem mod_sq (p : Nat) (hp : p = 2 ∨ p = 5 ∨ p = 13) (x : Nat) (h : (x * x) % p = 0) : x % p = 0 := by
  rw [Nat.mul_mod] at h
  rcases hp with rfl | rfl | rfl
  · have hx : x % 2 < 2 := Nat.mod_lt _ (by decide)
    generalize x % 2 = r at h hx ⊢
    revert h
    revert r
    decide
  · have hx : x % 5 < 5 := Nat.mod_lt _ (by decide)
    generalize x % 5 = r at h hx ⊢
    revert h
    revert r
    decide
  · have hx : x % 13 < 13 := Nat.mod_lt _ (by decide)
    generalize x % 13 = r at h hx ⊢
    revert h
    revert r
    decide
/-- no square is p squares -/
theorem no_root (p : Nat) (hp : p = 2 ∨ p = 5 ∨ p = 13) : ∀ (n x y : Nat), y ≤ n → x * x = p * (y * y) → y = 0
  | 0, _, y, hy, _ => by omega
  | n + 1, x, y, hy, h => by
    have p0 : 0 < p := by omega
    have hx : x % p = 0 := mod_sq p hp x (by rw [h]; exact Nat.mul_mod_right p (y * y))
    have ex : x = p * (x / p) := by
      have := Nat.div_add_mod x p
      omega
    generalize x / p = u at ex
    subst ex
    have e1 : p * (p * (u * u)) = p * (y * y) := by
      rw [← h, Nat.mul_mul_mul_comm, Nat.mul_assoc]
    have e2 : p * (u * u) = y * y := Nat.eq_of_mul_eq_mul_left p0 e1
    have hy2 : y % p = 0 := mod_sq p hp y (by rw [← e2]; exact Nat.mul_mod_right p (u * u))
    have ey : y = p * (y / p) := by
      have := Nat.div_add_mod y p
      omega
    generalize y / p = v at ey
    subst ey
    have e3 : u * u = p * (v * v) := by
      apply Nat.eq_of_mul_eq_mul_left p0
      rw [e2, Nat.mul_mul_mul_comm, Nat.mul_assoc]
    have hv : v ≤ n := by
      rcases Nat.eq_zero_or_pos v with e | e
      · omega
      · have : 2 * v ≤ p * v := Nat.mul_le_mul_right v (by omega)
        omega
    have := no_root p hp n u v hv e3
    subst this
    rfl
/-- for m from 1 to 4, m m and 4 has no root -/
theorem no_rootI {m : Int} (h1 : 1 ≤ m) (h4 : m ≤ 4) {s b : Int} (h : s * s = (m * m + 4) * (b * b)) : b = 0 := by
  have hs : ((s.natAbs * s.natAbs : Nat) : Int) = s * s := Int.natAbs_mul_self
  have hb : ((b.natAbs * b.natAbs : Nat) : Int) = b * b := Int.natAbs_mul_self
  have h2 : ((2 * b.natAbs) * (2 * b.natAbs) : Nat) = 4 * (b.natAbs * b.natAbs) := by
    rw [Nat.mul_mul_mul_comm]
  have fin : ∀ (y : Nat), y = 0 → y = 2 * b.natAbs ∨ y = b.natAbs → b = 0 := by omega
  rcases (by omega : m = 1 ∨ m = 2 ∨ m = 3 ∨ m = 4) with rfl | rfl | rfl | rfl
  · exact fin _ (no_root 5 (by decide) _ s.natAbs b.natAbs (Nat.le_refl _) (by omega)) (Or.inr rfl)
  · exact fin _ (no_root 2 (by decide) _ s.natAbs (2 * b.natAbs) (Nat.le_refl _) (by omega)) (Or.inl rfl)
  · exact fin _ (no_root 13 (by decide) _ s.natAbs b.natAbs (Nat.le_refl _) (by omega)) (Or.inr rfl)
  · exact fin _ (no_root 5 (by decide) _ s.natAbs (2 * b.natAbs) (Nat.le_refl _) (by omega)) (Or.inl rfl)
theorem sq_pos {x : Int} (h : x ≠ 0) : 0 < x * x := by
  rcases (by omega : 0 < x ∨ x < 0) with e | e
  · exact Int.mul_pos e e
  · exact Int.mul_pos_of_neg_of_neg e e
/-- the side that the program reckons -/
abbrev side (m a b : Int) : Int :=
  (2 * a + m * b) * (if 2 * a + m * b < 0 then -(2 * a + m * b) else 2 * a + m * b) + (m * m + 4) * (b * (if b < 0 then -b else b))
theorem sign_eq {m a b : Int} (h1 : 1 ≤ m) (h4 : m ≤ 4) :
    Kzv1.sign m.toNat ⟨a, b⟩ = if 0 < side m a b then 1 else if side m a b = 0 then 0 else -1 := by
  have em : ((m.toNat : Nat) : Int) = m := Int.toNat_of_nonneg (by omega)
  have ed : (((m.toNat * m.toNat + 4 : Nat)) : Int) = m * m + 4 := by rw [Int.natCast_add, Int.natCast_mul, em]; rfl
  unfold Kzv1.sign side
  simp only [em, ed]
  rw [Int.mul_comm b m, Int.mul_comm (b * b) (m * m + 4)]
  have nr := @no_rootI m h1 h4 (2 * a + m * b) b
  have d0 : 0 < m * m + 4 := by have := Int.mul_nonneg (show 0 ≤ m by omega) (show 0 ≤ m by omega); omega
  generalize 2 * a + m * b = s at nr ⊢
  generalize m * m + 4 = d at nr d0 ⊢
  have pb : b ≠ 0 → 0 < d * (b * b) := fun h => Int.mul_pos d0 (sq_pos h)
  have zb : b = 0 → d * (b * b) = 0 := fun h => by rw [h]; simp
  have ps : s ≠ 0 → 0 < s * s := fun h => sq_pos h
  have zs : s = 0 → s * s = 0 := fun h => by rw [h]; simp
  have e1 : s * (if s < 0 then -s else s) = if s < 0 then -(s * s) else s * s := by
    split
    · rw [Int.mul_neg]
    · rfl
  have e2 : d * (b * (if b < 0 then -b else b)) = if b < 0 then -(d * (b * b)) else d * (b * b) := by
    split
    · rw [Int.mul_neg, Int.mul_neg]
    · rfl
  rw [e1, e2]
  generalize s * s = S at nr ps zs ⊢
  generalize d * (b * b) = D at nr pb zb ⊢
  by_cases c1 : s = 0 <;> by_cases c2 : b = 0 <;> by_cases c3 : s < 0 <;> by_cases c4 : b < 0 <;>
    simp only [c1, c2, c3, c4, if_true, if_false] <;> grind

/-- what the program asks of a part -/
abbrev mag (a : Int) : Int := if a < 0 then -a else a
theorem mag_nat (a : Int) : (a.natAbs : Int) = mag a := by unfold mag; split <;> omega
theorem two {x : List Int} (h : (x.length : Int) = 2) : x = [x.getD (Int.toNat 0) 0, x.getD (Int.toNat 1) 0] := by
  match x, h with
  | [a, b], _ => rfl
  | [], h => exact absurd h (by decide)
  | [_], h => exact absurd h (by simp)
  | _ :: _ :: _ :: r, h => exfalso; simp only [List.length_cons] at h; omega
theorem readZ_ok {x : List Int} (h : (x.length : Int) = 2) (ha : mag (x.getD (Int.toNat 0) 0) ≤ 1000000) (hb : mag (x.getD (Int.toNat 1) 0) ≤ 1000000) :
    Kzv1.readZ x = some ⟨x.getD (Int.toNat 0) 0, x.getD (Int.toNat 1) 0⟩ := by
  have e := two h
  generalize x.getD (Int.toNat 0) 0 = a at *
  generalize x.getD (Int.toNat 1) 0 = b at *
  subst e
  have k : Kzv1.okZ ⟨a, b⟩ = true := by
    unfold Kzv1.okZ Kzv1.mostN
    have := mag_nat a
    have := mag_nat b
    simp only [Bool.and_eq_true, decide_eq_true_eq]
    omega
  show (if Kzv1.okZ ⟨a, b⟩ then some (⟨a, b⟩ : Kzv1.Z) else none) = _
  rw [if_pos k]
theorem readZ_len {x : List Int} (h : (x.length : Int) ≠ 2) : Kzv1.readZ x = none := by
  match x, h with
  | [a, b], h => exact absurd rfl h
  | [], _ => rfl
  | [_], _ => rfl
  | _ :: _ :: _ :: r, _ => rfl
theorem readZ_bad {x : List Int} (h : (x.length : Int) = 2) (hab : ¬ (mag (x.getD (Int.toNat 0) 0) ≤ 1000000 ∧ mag (x.getD (Int.toNat 1) 0) ≤ 1000000)) :
    Kzv1.readZ x = none := by
  have e := two h
  generalize x.getD (Int.toNat 0) 0 = a at *
  generalize x.getD (Int.toNat 1) 0 = b at *
  subst e
  have k : ¬ Kzv1.okZ ⟨a, b⟩ = true := by
    unfold Kzv1.okZ Kzv1.mostN
    have := mag_nat a
    have := mag_nat b
    simp only [Bool.and_eq_true, decide_eq_true_eq]
    omega
  show (if Kzv1.okZ ⟨a, b⟩ then some (⟨a, b⟩ : Kzv1.Z) else none) = _
  rw [if_neg k]
theorem readZ_bad1 {x : List Int} (h : (x.length : Int) = 2) (ha : ¬ mag (x.getD (Int.toNat 0) 0) ≤ 1000000) : Kzv1.readZ x = none :=
  readZ_bad h fun k => ha k.1
theorem readZ_bad2 {x : List Int} (h : (x.length : Int) = 2) (hb : ¬ mag (x.getD (Int.toNat 1) 0) ≤ 1000000) : Kzv1.readZ x = none :=
  readZ_bad h fun k => hb k.2
theorem okM_yes {m : Int} (h1 : 1 ≤ m) (h4 : m ≤ 4) : Kzv1.okM m.toNat = true := by
  unfold Kzv1.okM
  simp only [Bool.and_eq_true, decide_eq_true_eq]
  omega
theorem okM_no {m : Int} (h : ¬ (1 ≤ m ∧ m ≤ 4)) : Kzv1.okM m.toNat = false := by
  unfold Kzv1.okM
  cases e : decide (1 ≤ m.toNat) && decide (m.toNat ≤ 4) with
  | false => rfl
  | true =>
    simp only [Bool.and_eq_true, decide_eq_true_eq] at e
    omega

theorem sign_m {m : Int} {x : List Int} (h : ¬ (1 ≤ m ∧ m ≤ 4)) : PyKzv1.sign m x = [-22] := by
  show (let a := Kzv1.answer (.sign m.toNat x); a.value :: a.nums) = _
  simp only [Kzv1.answer, okM_no h, if_true, Kzv1.say]
theorem sign_x {m : Int} {x : List Int} (h1 : 1 ≤ m) (h4 : m ≤ 4) (h : Kzv1.readZ x = none) : PyKzv1.sign m x = [-22] := by
  show (let a := Kzv1.answer (.sign m.toNat x); a.value :: a.nums) = _
  simp only [Kzv1.answer, okM_yes h1 h4, Kzv1.withZ, h, Kzv1.say]
  rfl
theorem sign_z {m : Int} {x : List Int} {a b : Int} (h1 : 1 ≤ m) (h4 : m ≤ 4) (h : Kzv1.readZ x = some ⟨a, b⟩) :
    PyKzv1.sign m x = [(if 0 < side m a b then 1 else if side m a b = 0 then 0 else -1) + 1] := by
  show (let a := Kzv1.answer (.sign m.toNat x); a.value :: a.nums) = _
  simp only [Kzv1.answer, okM_yes h1 h4, Kzv1.withZ, h, Kzv1.say]
  rw [← sign_eq h1 h4]
  rfl
theorem sign_2 {m : Int} {x : List Int} {a b : Int} (h1 : 1 ≤ m) (h4 : m ≤ 4) (h : Kzv1.readZ x = some ⟨a, b⟩) (hs : 0 < side m a b) : PyKzv1.sign m x = [2] := by
  rw [sign_z h1 h4 h, if_pos hs]
  rfl
theorem sign_1 {m : Int} {x : List Int} {a b : Int} (h1 : 1 ≤ m) (h4 : m ≤ 4) (h : Kzv1.readZ x = some ⟨a, b⟩) (hs : side m a b = 0) : PyKzv1.sign m x = [1] := by
  rw [sign_z h1 h4 h, if_neg (by omega), if_pos hs]
  rfl
theorem sign_0 {m : Int} {x : List Int} {a b : Int} (h1 : 1 ≤ m) (h4 : m ≤ 4) (h : Kzv1.readZ x = some ⟨a, b⟩) (hs : ¬ 0 < side m a b) (hz : ¬ side m a b = 0) : PyKzv1.sign m x = [0] := by
  rw [sign_z h1 h4 h, if_neg hs, if_neg hz]
  rfl
theorem said : PySem.Challenge.rw_partnernumbers_s01_sign.wellSaid = true := by decide +kernel
theorem fin {m : Int} {x ans : List Int} (hp : PySem.Challenge.rw_partnernumbers_s01_sign.pre [WData.int m, ofPy (PyData.list (x.map PyData.int))] = true)
    (h : PyKzv1.sign m x = ans) :
    PySem.Challenge.rw_partnernumbers_s01_sign.post [WData.int m, ofPy (PyData.list (x.map PyData.int))] (ofPy (PyData.list (ans.map PyData.int))) = true := by
  obtain ⟨a, w, q, e⟩ := os_pre said hp
  rw [e]
  refine os_shut said w ?_
  obtain ⟨m', x', u⟩ := a
  have e1 := os_j_int (List.cons.inj e).1
  have e2 := os_j_ints (List.cons.inj (List.cons.inj e).2).1
  subst e1 e2
  subst h
  exact os_list rfl
end My
set_option maxRecDepth 100000 in
set_option maxHeartbeats 8000000 in
theorem PySem.Challenge.cw_partnernumbers_s01_sign_holds : PySem.Challenge.rw_partnernumbers_s01_sign.Holds := by
  open_ks with [.int 0, .list []]
  all_goals first
    | exact My.fin (ans := [-22]) hpre (My.sign_m fun k => absurd k.1 (by assumption))
    | exact My.fin (ans := [-22]) hpre (My.sign_m fun k => absurd k.2 (by assumption))
    | exact My.fin (ans := [-22]) hpre (My.sign_x (by assumption) (by assumption) (My.readZ_len (by assumption)))
    | exact My.fin (ans := [-22]) hpre (My.sign_x (by assumption) (by assumption) (My.readZ_bad1 (by assumption) (by assumption)))
    | exact My.fin (ans := [-22]) hpre (My.sign_x (by assumption) (by assumption) (My.readZ_bad2 (by assumption) (by assumption)))
    | exact My.fin (ans := [2]) hpre (My.sign_2 (by assumption) (by assumption) (My.readZ_ok (by assumption) (by assumption) (by assumption)) (by assumption))
    | exact My.fin (ans := [1]) hpre (My.sign_1 (by assumption) (by assumption) (My.readZ_ok (by assumption) (by assumption) (by assumption)) (by assumption))
    | exact My.fin (ans := [0]) hpre (My.sign_0 (by assumption) (by assumption) (My.readZ_ok (by assumption) (by assumption) (by assumption)) (by assumption) (by assumption))
#print axioms PySem.Challenge.cw_partnernumbers_s01_sign_holds
