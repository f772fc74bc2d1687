import PyProof.Rows.All
import KE.OsGo
import KE.OsArgs
import PySem.Challenge.RW_partnernumbers_s07_floor
open PySem PySem.W
set_option Elab.async false
namespace My
/-- what the program asks of a part -/
abbrev mag (a : Int) : Int := if a < 0 then -a else a
theorem mag_nat (a : Int) : (a.natAbs : Int) = mag a := by unfold mag; split <;> omega
theorem two {x : List Int} (h : (x.length : Int) = 2) : x = [x.getD (Int.toNat 0) 0, x.getD (Int.toNat 1) 0] := by
  match x, h with
  | [a, b], _ => rfl
  | [], h => exact absurd h (by decide)
  | [_], h => exact absurd h (by simp)
  | _ :: _ :: _ :: r, h => exfalso; simp only [List.length_cons] at h; omega
theorem readZ_ok {x : List Int} (h : (x.length : Int) = 2) (ha : mag (x.getD (Int.toNat 0) 0) ≤ 1000000) (hb : mag (x.getD (Int.toNat 1) 0) ≤ 1000000) :
    Kzv1.readZ x = some ⟨x.getD (Int.toNat 0) 0, x.getD (Int.toNat 1) 0⟩ := by
  have e := two h
  generalize x.getD (Int.toNat 0) 0 = a at *
  generalize x.getD (Int.toNat 1) 0 = b at *
  subst e
  have k : Kzv1.okZ ⟨a, b⟩ = true := by
    unfold Kzv1.okZ Kzv1.mostN
    have := mag_nat a
    have := mag_nat b
    simp only [Bool.and_eq_true, decide_eq_true_eq]
    omega
  show (if Kzv1.okZ ⟨a, b⟩ then some (⟨a, b⟩ : Kzv1.Z) else none) = _
  rw [if_pos k]
theorem readZ_len {x : List Int} (h : (x.length : Int) ≠ 2) : Kzv1.readZ x = none := by
  match x, h with
  | [a, b], h => exact absurd rfl h
  | [], _ => rfl
  | [_], _ => rfl
  | _ :: _ :: _ :: r, _ => rfl
theorem readZ_bad {x : List Int} (h : (x.length : Int) = 2) (hab : ¬ (mag (x.getD (Int.toNat 0) 0) ≤ 1000000 ∧ mag (x.getD (Int.toNat 1) 0) ≤ 1000000)) :
    Kzv1.readZ x = none := by
  have e := two h
  generalize x.getD (Int.toNat 0) 0 = a at *
  generalize x.getD (Int.toNat 1) 0 = b at *
  subst e
  have k : ¬ Kzv1.okZ ⟨a, b⟩ = true := by
    unfold Kzv1.okZ Kzv1.mostN
    have := mag_nat a
    have := mag_nat b
    simp only [Bool.and_eq_true, decide_eq_true_eq]
    omega
  show (if Kzv1.okZ ⟨a, b⟩ then some (⟨a, b⟩ : Kzv1.Z) else none) = _
  rw [if_neg k]
theorem readZ_bad1 {x : List Int} (h : (x.length : Int) = 2) (ha : ¬ mag (x.getD (Int.toNat 0) 0) ≤ 1000000) : Kzv1.readZ x = none :=
  readZ_bad h fun k => ha k.1
theorem readZ_bad2 {x : List Int} (h : (x.length : Int) = 2) (hb : ¬ mag (x.getD (Int.toNat 1) 0) ≤ 1000000) : Kzv1.readZ x = none :=
  readZ_bad h fun k => hb k.2
theorem okM_yes {m : Int} (h1 : 1 ≤ m) (h4 : m ≤ 4) : Kzv1.okM m.toNat = true := by
  unfold Kzv1.okM
  simp only [Bool.and_eq_true, decide_eq_true_eq]
  omega
theorem okM_no {m : Int} (h : ¬ (1 ≤ m ∧ m ≤ 4)) : Kzv1.okM m.toNat = false := by
  unfold Kzv1.okM
  cases e : decide (1 ≤ m.toNat) && decide (m.toNat ≤ 4) with
  | false => rfl
  | true =>
    simp only [Bool.and_eq_true, decide_eq_true_eq] at e
    omega

/-- the program's tests, as the walk joins their ways -/
abbrev fitsM (m : Int) : Bool := if 1 ≤ m then decide (m ≤ 4) else decide (1 ≤ m)
abbrev fitsZ (x : List Int) : Bool :=
  if ¬ (x.length : Int) = 2 then false
  else if mag (x.getD (Int.toNat 0) 0) ≤ 1000000 then decide (mag (x.getD (Int.toNat 1) 0) ≤ 1000000)
  else decide (mag (x.getD (Int.toNat 0) 0) ≤ 1000000)
theorem m_lo {m : Int} (h : fitsM m = true) : 1 ≤ m := by
  unfold fitsM at h
  split at h
  · assumption
  · exact of_decide_eq_true h
theorem m_hi {m : Int} (h : fitsM m = true) : m ≤ 4 := by
  unfold fitsM at h
  split at h
  · exact of_decide_eq_true h
  · rename_i k
    exact absurd (of_decide_eq_true h) k
theorem m_no {m : Int} (h : fitsM m = false) : ¬ (1 ≤ m ∧ m ≤ 4) := by
  intro k
  unfold fitsM at h
  rw [if_pos k.1] at h
  exact of_decide_eq_false h k.2
theorem z_yes {x : List Int} (h : fitsZ x = true) : Kzv1.readZ x = some ⟨x.getD (Int.toNat 0) 0, x.getD (Int.toNat 1) 0⟩ := by
  unfold fitsZ at h
  by_cases l : (x.length : Int) = 2
  · rw [if_neg (fun k => k l)] at h
    by_cases a : mag (x.getD (Int.toNat 0) 0) ≤ 1000000
    · rw [if_pos a] at h
      exact readZ_ok l a (of_decide_eq_true h)
    · rw [if_neg a] at h
      exact absurd (of_decide_eq_true h) a
  · rw [if_pos l] at h
    cases h
theorem z_no {x : List Int} (h : fitsZ x = false) : Kzv1.readZ x = none := by
  unfold fitsZ at h
  by_cases l : (x.length : Int) = 2
  · rw [if_neg (fun k => k l)] at h
    by_cases a : mag (x.getD (Int.toNat 0) 0) ≤ 1000000
    · rw [if_pos a] at h
      exact readZ_bad2 l (of_decide_eq_false h)
    · exact readZ_bad1 l a
  · exact readZ_len l

theorem mod_sq (p : Nat) (hp : p = 2 ∨ p = 5 ∨ p = 13) (x : Nat) (h : (x * x) % p = 0) : x % p = 0 := by
  rw [Nat.mul_mod] at h
  rcases hp with rfl | rfl | rfl
  · have hx : x % 2 < 2 := Nat.mod_lt _ (by decide)
    generalize x % 2 = r at h hx ⊢
    revert h
    revert r
    decide
  · have hx : x % 5 < 5 := Nat.mod_lt _ (by decide)
    generalize x % 5 = r at h hx ⊢
    revert h
    revert r
    decide
  · have hx : x % 13 < 13 := Nat.mod_lt _ (by decide)
    generalize x % 13 = r at h hx ⊢
    revert h
    revert r
    decide
/-- no square is p squares -/
theorem no_root (p : Nat) (hp : p = 2 ∨ p = 5 ∨ p = 13) : ∀ (n x y : Nat), y ≤ n → x * x = p * (y * y) → y = 0
  | 0, _, y, hy, _ => by omega
  | n + 1, x, y, hy, h => by
    have p0 : 0 < p := by omega
    have hx : x % p = 0 := mod_sq p hp x (by rw [h]; exact Nat.mul_mod_right p (y * y))
    have ex : x = p * (x / p) := by
      have := Nat.div_add_mod x p
      omega
    generalize x / p = u at ex
    subst ex
    have e1 : p * (p * (u * u)) = p * (y * y) := by
      rw [← h, Nat.mul_mul_mul_comm, Nat.mul_assoc]
    have e2 : p * (u * u) = y * y := Nat.eq_of_mul_eq_mul_left p0 e1
    have hy2 : y % p = 0 := mod_sq p hp y (by rw [← e2]; exact Nat.mul_mod_right p (u * u))
    have ey : y = p * (y / p) := by
      have := Nat.div_add_mod y p
      omega
    generalize y / p = v at ey
    subst ey
    have e3 : u * u = p * (v * v) := by
      apply Nat.eq_of_mul_eq_mul_left p0
      rw [e2, Nat.mul_mul_mul_comm, Nat.mul_assoc]
    have hv : v ≤ n := by
      rcases Nat.eq_zero_or_pos v with e | e
      · omega
      · have : 2 * v ≤ p * v := Nat.mul_le_mul_right v (by omega)
        omega
    have := no_root p hp n u v hv e3
    subst this
    rfl
/-- for m from 1 to 4, m m and 4 has no root -/
theorem no_rootI {m : Int} (h1 : 1 ≤ m) (h4 : m ≤ 4) {s b : Int} (h : s * s = (m * m + 4) * (b * b)) : b = 0 := by
  have hs : ((s.natAbs * s.natAbs : Nat) : Int) = s * s := Int.natAbs_mul_self
  have hb : ((b.natAbs * b.natAbs : Nat) : Int) = b * b := Int.natAbs_mul_self
  have h2 : ((2 * b.natAbs) * (2 * b.natAbs) : Nat) = 4 * (b.natAbs * b.natAbs) := by
    rw [Nat.mul_mul_mul_comm]
  have fin : ∀ (y : Nat), y = 0 → y = 2 * b.natAbs ∨ y = b.natAbs → b = 0 := by omega
  rcases (by omega : m = 1 ∨ m = 2 ∨ m = 3 ∨ m = 4) with rfl | rfl | rfl | rfl
  · exact fin _ (no_root 5 (by decide) _ s.natAbs b.natAbs (Nat.le_refl _) (by omega)) (Or.inr rfl)
  · exact fin _ (no_root 2 (by decide) _ s.natAbs (2 * b.natAbs) (Nat.le_refl _) (by omega)) (Or.inl rfl)
  · exact fin _ (no_root 13 (by decide) _ s.natAbs b.natAbs (Nat.le_refl _) (by omega)) (Or.inr rfl)
  · exact fin _ (no_root 5 (by decide) _ s.natAbs (2 * b.natAbs) (Nat.le_refl _) (by omega)) (Or.inl rfl)
theorem sq_pos {x : Int} (h : x ≠ 0) : 0 < x * x := by
  rcases (by omega : 0 < x ∨ x < 0) with e | e
  · exact Int.mul_pos e e
  · exact Int.mul_pos_of_neg_of_neg e e
/-- the side that the program reckons -/
abbrev side (m a b : Int) : Int :=
  (2 * a + m * b) * (if 2 * a + m * b < 0 then -(2 * a + m * b) else 2 * a + m * b) + (m * m + 4) * (b * (if b < 0 then -b else b))
theorem sign_eq {m a b : Int} (h1 : 1 ≤ m) (h4 : m ≤ 4) :
    Kzv1.sign m.toNat ⟨a, b⟩ = if 0 < side m a b then 1 else if side m a b = 0 then 0 else -1 := by
  have em : ((m.toNat : Nat) : Int) = m := Int.toNat_of_nonneg (by omega)
  have ed : (((m.toNat * m.toNat + 4 : Nat)) : Int) = m * m + 4 := by rw [Int.natCast_add, Int.natCast_mul, em]; rfl
  unfold Kzv1.sign side
  simp only [em, ed]
  rw [Int.mul_comm b m, Int.mul_comm (b * b) (m * m + 4)]
  have nr := @no_rootI m h1 h4 (2 * a + m * b) b
  have d0 : 0 < m * m + 4 := by have := Int.mul_nonneg (show 0 ≤ m by omega) (show 0 ≤ m by omega); omega
  generalize 2 * a + m * b = s at nr ⊢
  generalize m * m + 4 = d at nr d0 ⊢
  have pb : b ≠ 0 → 0 < d * (b * b) := fun h => Int.mul_pos d0 (sq_pos h)
  have zb : b = 0 → d * (b * b) = 0 := fun h => by rw [h]; simp
  have ps : s ≠ 0 → 0 < s * s := fun h => sq_pos h
  have zs : s = 0 → s * s = 0 := fun h => by rw [h]; simp
  have e1 : s * (if s < 0 then -s else s) = if s < 0 then -(s * s) else s * s := by
    split
    · rw [Int.mul_neg]
    · rfl
  have e2 : d * (b * (if b < 0 then -b else b)) = if b < 0 then -(d * (b * b)) else d * (b * b) := by
    split
    · rw [Int.mul_neg, Int.mul_neg]
    · rfl
  rw [e1, e2]
  generalize s * s = S at nr ps zs ⊢
  generalize d * (b * b) = D at nr pb zb ⊢
  by_cases c1 : s = 0 <;> by_cases c2 : b = 0 <;> by_cases c3 : s < 0 <;> by_cases c4 : b < 0 <;>
    simp only [c1, c2, c3, c4, if_true, if_false] <;> grind
theorem sq_lt {x y : Nat} (h : x * x < (y + 1) * (y + 1)) : x ≤ y := by
  rcases Nat.lt_or_ge y x with k | k
  · have k' : y + 1 ≤ x := k
    have := Nat.mul_le_mul k' k'
    omega
  · exact k
theorem root_unique {n r q : Nat} (h1 : r * r ≤ n) (h2 : n < (r + 1) * (r + 1)) (h3 : q * q ≤ n) (h4 : n < (q + 1) * (q + 1)) : r = q :=
  Nat.le_antisymm (sq_lt (Nat.lt_of_le_of_lt h1 h4)) (sq_lt (Nat.lt_of_le_of_lt h3 h2))
/-- the specification's root is the root, rounded down -/
theorem root_ok : ∀ (k n : Nat), n < 4 ^ k → Kzv1.root k n * Kzv1.root k n ≤ n ∧ n < (Kzv1.root k n + 1) * (Kzv1.root k n + 1)
  | 0, n, h => by
    have e : n = 0 := by
      have : n < 1 := h
      omega
    subst e
    exact ⟨Nat.le_refl _, by decide⟩
  | k + 1, n, h => by
    have h' : n / 4 < 4 ^ k := by
      rw [Nat.pow_succ] at h
      omega
    have ih := root_ok k (n / 4) h'
    unfold Kzv1.root
    generalize Kzv1.root k (n / 4) = r at ih
    by_cases z : n = 0
    · rw [if_pos z]
      subst z
      exact ⟨Nat.le_refl _, by decide⟩
    · rw [if_neg z]
      have e1 : 2 * r * (2 * r) = 4 * (r * r) := by grind
      have e2 : (2 * r + 1 + 1) * (2 * r + 1 + 1) = 4 * ((r + 1) * (r + 1)) := by grind
      have := ih.1
      have := ih.2
      by_cases c : (2 * r + 1) * (2 * r + 1) ≤ n
      · simp only [if_pos c]
        exact ⟨c, by omega⟩
      · simp only [if_neg c]
        exact ⟨by omega, by omega⟩
/-- any root, rounded down, is the specification's -/
theorem root_is {n r : Nat} (hn : n < 4 ^ 200) (h1 : r * r ≤ n) (h2 : n < (r + 1) * (r + 1)) : Kzv1.root 200 n = r :=
  root_unique (root_ok 200 n hn).1 (root_ok 200 n hn).2 h1 h2
theorem small {m b : Int} (h1 : 1 ≤ m) (h4 : m ≤ 4) (hb : b.natAbs ≤ 1000000) : (b * b).toNat * (m.toNat * m.toNat + 4) < 4 ^ 200 := by
  have e : (b * b).toNat = b.natAbs * b.natAbs := by
    have := @Int.natAbs_mul_self b
    omega
  have a1 : b.natAbs * b.natAbs ≤ 1000000 * 1000000 := Nat.mul_le_mul hb hb
  have a2 : m.toNat * m.toNat ≤ 4 * 4 := Nat.mul_le_mul (by omega) (by omega)
  have a3 : (b * b).toNat * (m.toNat * m.toNat + 4) ≤ (1000000 * 1000000) * 20 := Nat.mul_le_mul (by omega) (by omega)
  exact Nat.lt_of_le_of_lt a3 (by decide)
/-- the floor by any root of b b (m m and 4), rounded down: b is 0 or more -/
theorem floor_up {m a b r : Int} (h1 : 1 ≤ m) (h4 : m ≤ 4) (hb : b.natAbs ≤ 1000000) (b0 : 0 ≤ b) (r0 : 0 ≤ r) (lo : r * r ≤ (m * m + 4) * (b * b)) (hi : (m * m + 4) * (b * b) < (r + 1) * (r + 1)) :
    Kzv1.floor m.toNat ⟨a, b⟩ = (2 * a + m * b + r) / 2 := by
  have em : ((m.toNat : Nat) : Int) = m := Int.toNat_of_nonneg (by omega)
  have en : (((b * b).toNat * (m.toNat * m.toNat + 4) : Nat) : Int) = (m * m + 4) * (b * b) := by
    have p : 0 ≤ b * b := Int.mul_nonneg b0 b0
    rw [Int.natCast_mul, Int.toNat_of_nonneg p, Int.natCast_add, Int.natCast_mul, em, Int.mul_comm]
    rfl
  have er : Kzv1.root 200 ((b * b).toNat * (m.toNat * m.toNat + 4)) = r.toNat := by
    have er0 : ((r.toNat : Nat) : Int) = r := Int.toNat_of_nonneg r0
    refine root_is (small h1 h4 hb) ?_ ?_
    · apply Int.ofNat_le.mp
      rw [en, Int.natCast_mul, er0]
      exact lo
    · apply Int.ofNat_lt.mp
      rw [en, Int.natCast_mul, Int.natCast_add, er0]
      exact hi
  unfold Kzv1.floor
  simp only [er, em, if_pos b0]
  rw [Int.toNat_of_nonneg r0, Int.mul_comm b m]
/-- the same, b below 0 -/
theorem floor_down {m a b r : Int} (h1 : 1 ≤ m) (h4 : m ≤ 4) (hb : b.natAbs ≤ 1000000) (b0 : b < 0) (r0 : 0 ≤ r) (lo : r * r ≤ (m * m + 4) * (b * b)) (hi : (m * m + 4) * (b * b) < (r + 1) * (r + 1)) (ne : r * r ≠ (m * m + 4) * (b * b)) :
    Kzv1.floor m.toNat ⟨a, b⟩ = (2 * a + m * b - (r + 1)) / 2 := by
  have em : ((m.toNat : Nat) : Int) = m := Int.toNat_of_nonneg (by omega)
  have en : (((b * b).toNat * (m.toNat * m.toNat + 4) : Nat) : Int) = (m * m + 4) * (b * b) := by
    have p : 0 ≤ b * b := Int.le_of_lt (Int.mul_pos_of_neg_of_neg b0 b0)
    rw [Int.natCast_mul, Int.toNat_of_nonneg p, Int.natCast_add, Int.natCast_mul, em, Int.mul_comm]
    rfl
  have er0 : ((r.toNat : Nat) : Int) = r := Int.toNat_of_nonneg r0
  have er : Kzv1.root 200 ((b * b).toNat * (m.toNat * m.toNat + 4)) = r.toNat := by
    refine root_is (small h1 h4 hb) ?_ ?_
    · apply Int.ofNat_le.mp
      rw [en, Int.natCast_mul, er0]
      exact lo
    · apply Int.ofNat_lt.mp
      rw [en, Int.natCast_mul, Int.natCast_add, er0]
      exact hi
  have nq : ¬ r.toNat * r.toNat = (b * b).toNat * (m.toNat * m.toNat + 4) := by
    intro k
    apply ne
    rw [← en, ← k, Int.natCast_mul, er0]
  unfold Kzv1.floor
  simp only [er, em, if_neg (show ¬ 0 ≤ b by omega), if_neg nq]
  rw [Int.natCast_add, er0, Int.mul_comm b m]
  rfl
theorem sq_ltI {x y : Int} (y0 : 0 ≤ y) (h : x * x < (y + 1) * (y + 1)) : x ≤ y := by
  rcases (by omega : x ≤ y ∨ y + 1 ≤ x) with k | k
  · exact k
  · have := Int.mul_le_mul k k (by omega) (by omega)
    omega
theorem lt_sqI {x y : Int} (y0 : 0 ≤ x) (h : y * y < x * x) : y < x := by
  rcases (by omega : y < x ∨ x ≤ y) with k | k
  · exact k
  · have := Int.mul_le_mul k k (by omega) (by omega)
    omega
/-- the floor is the one whole number that is no greater, and by less than 1 -/
theorem floor_is {m a b f : Int} (h1 : 1 ≤ m) (h4 : m ≤ 4) (hb : b.natAbs ≤ 1000000) (lo : 0 ≤ side m (a - f) b) (hi : side m (a - (f + 1)) b < 0) :
    Kzv1.floor m.toNat ⟨a, b⟩ = f := by
  have e1 : 2 * (a - f) + m * b = 2 * a + m * b - 2 * f := by omega
  have e2 : 2 * (a - (f + 1)) + m * b = 2 * a + m * b - 2 * f - 2 := by omega
  have e3 : (m * m + 4) * (b * (if b < 0 then -b else b)) = if b < 0 then -((m * m + 4) * (b * b)) else (m * m + 4) * (b * b) := by
    split
    · rw [Int.mul_neg, Int.mul_neg]
    · rfl
  unfold side at lo hi
  rw [e1, e3] at lo
  rw [e2, e3] at hi
  have d0 : 0 < m * m + 4 := by
    have := Int.mul_nonneg (show 0 ≤ m by omega) (show 0 ≤ m by omega)
    omega
  have n0 : 0 ≤ (m * m + 4) * (b * b) := Int.mul_nonneg (Int.le_of_lt d0) (by
    rcases (by omega : 0 ≤ b ∨ b < 0) with k | k
    · exact Int.mul_nonneg k k
    · exact Int.le_of_lt (Int.mul_pos_of_neg_of_neg k k))
  have ex : ∃ r : Int, 0 ≤ r ∧ r * r ≤ (m * m + 4) * (b * b) ∧ (m * m + 4) * (b * b) < (r + 1) * (r + 1) := by
    have en : ((((m * m + 4) * (b * b)).toNat : Nat) : Int) = (m * m + 4) * (b * b) := Int.toNat_of_nonneg n0
    have hN := root_ok (((m * m + 4) * (b * b)).toNat) (((m * m + 4) * (b * b)).toNat) (Nat.lt_pow_self (by decide))
    generalize Kzv1.root _ _ = r at hN
    refine ⟨(r : Int), Int.natCast_nonneg r, ?_, ?_⟩
    · rw [← en, ← Int.natCast_mul]
      exact Int.ofNat_le.mpr hN.1
    · rw [← en]
      exact Int.ofNat_lt.mpr hN.2
  obtain ⟨r, r0, rl, rh⟩ := ex
  have nr := @no_rootI m h1 h4 r b
  rcases (by omega : 0 ≤ b ∨ b < 0) with b0 | b0
  · rw [floor_up h1 h4 hb b0 r0 rl rh]
    rw [if_neg (show ¬ b < 0 by omega)] at lo hi
    generalize 2 * a + m * b = s at *
    generalize (m * m + 4) * (b * b) = n at *
    have k1 : 2 * f - s ≤ r := by
      rcases (by omega : s - 2 * f < 0 ∨ 0 ≤ s - 2 * f) with k | k
      · rw [if_pos k, Int.mul_neg] at lo
        refine sq_ltI r0 ?_
        have q : (2 * f - s) * (2 * f - s) = (s - 2 * f) * (s - 2 * f) := by grind
        omega
      · omega
    have k2 : r < 2 * f + 2 - s := by
      rcases (by omega : s - 2 * f - 2 < 0 ∨ 0 ≤ s - 2 * f - 2) with k | k
      · rw [if_pos k, Int.mul_neg] at hi
        refine lt_sqI (by omega) ?_
        have q : (2 * f + 2 - s) * (2 * f + 2 - s) = (s - 2 * f - 2) * (s - 2 * f - 2) := by grind
        omega
      · rw [if_neg (by omega)] at hi
        have := Int.mul_nonneg k k
        omega
    omega
  · have ne : r * r ≠ (m * m + 4) * (b * b) := fun k => by
      have := nr k
      omega
    rw [floor_down h1 h4 hb b0 r0 rl rh ne]
    rw [if_pos b0] at lo hi
    generalize 2 * a + m * b = s at *
    generalize (m * m + 4) * (b * b) = n at *
    have k1 : r < s - 2 * f := by
      rcases (by omega : s - 2 * f < 0 ∨ 0 ≤ s - 2 * f) with k | k
      · rw [if_pos k, Int.mul_neg] at lo
        have := Int.mul_pos_of_neg_of_neg k k
        have := Int.mul_nonneg r0 r0
        omega
      · rw [if_neg (by omega)] at lo
        refine lt_sqI k ?_
        omega
    have k2 : s - 2 * f - 2 ≤ r := by
      rcases (by omega : s - 2 * f - 2 < 0 ∨ 0 ≤ s - 2 * f - 2) with k | k
      · omega
      · rw [if_neg (by omega)] at hi
        refine sq_ltI r0 ?_
        omega
    omega
structure Inv (m : Int) (x : List Int) (low high : Int) : Prop where
  lo : 0 ≤ side m (x.getD (Int.toNat 0) 0 - low) (x.getD (Int.toNat 1) 0)
  hi : side m (x.getD (Int.toNat 0) 0 - high) (x.getD (Int.toNat 1) 0) < 0
theorem mid_lo {l h : Int} (k : 1 < h - l) : l < (l + h).fdiv 2 := by
  rw [Int.fdiv_eq_ediv_of_nonneg _ (by decide)]; omega
theorem mid_hi {l h : Int} (k : 1 < h - l) : (l + h).fdiv 2 < h := by
  rw [Int.fdiv_eq_ediv_of_nonneg _ (by decide)]; omega
theorem start_up {m a b : Int} (h1 : 1 ≤ m) (b0 : 0 ≤ b) : 0 ≤ side m (a - (a + m * b)) b ∧ side m (a - (a + (m + 1) * b + 1)) b < 0 := by
  have mb : 0 ≤ m * b := Int.mul_nonneg (by omega) b0
  have bb : 0 ≤ b * b := Int.mul_nonneg b0 b0
  have mbb : 0 ≤ m * (b * b) := Int.mul_nonneg (by omega) bb
  constructor
  · unfold side
    rw [if_neg (show ¬ b < 0 by omega)]
    have e : 2 * (a - (a + m * b)) + m * b = -(m * b) := by omega
    rw [e]
    split
    · have q : -(m * b) * -(-(m * b)) + (m * m + 4) * (b * b) = 4 * (b * b) := by grind
      omega
    · have q : -(m * b) * -(m * b) + (m * m + 4) * (b * b) = (m * b) * (m * b) + (m * m + 4) * (b * b) := by grind
      rw [q]
      have := Int.mul_nonneg mb mb
      have := Int.mul_nonneg (show 0 ≤ m * m + 4 by have := Int.mul_nonneg (show 0 ≤ m by omega) (show 0 ≤ m by omega); omega) bb
      omega
  · unfold side
    rw [if_neg (show ¬ b < 0 by omega)]
    have e0 : (m + 1) * b = m * b + b := by grind
    have e : 2 * (a - (a + (m + 1) * b + 1)) + m * b = -(m * b + 2 * b + 2) := by omega
    rw [e, if_pos (by omega)]
    have q : -(m * b + 2 * b + 2) * -(-(m * b + 2 * b + 2)) + (m * m + 4) * (b * b) = -(4 * (m * (b * b)) + 4 * (m * b) + 8 * b + 4) := by grind
    rw [q]
    omega
theorem start_down {m a b : Int} (h1 : 1 ≤ m) (b0 : b < 0) : 0 ≤ side m (a - (a + (m + 1) * b)) b ∧ side m (a - (a + m * b + 1)) b < 0 := by
  obtain ⟨c, rfl⟩ : ∃ c, b = -c := ⟨-b, by omega⟩
  have c0 : 0 < c := by omega
  have mc : 0 < m * c := Int.mul_pos (by omega) c0
  have cc : 0 < c * c := Int.mul_pos c0 c0
  have mcc : 0 < m * (c * c) := Int.mul_pos (by omega) cc
  have mm : 0 ≤ m * m := Int.mul_nonneg (by omega) (by omega)
  have dcc : 0 < (m * m + 4) * (c * c) := Int.mul_pos (by omega) cc
  constructor
  · unfold side
    rw [if_pos b0]
    have e0 : (m + 1) * -c = -(m * c) - c := by grind
    have e1 : m * -c = -(m * c) := by grind
    have e : 2 * (a - (a + (m + 1) * -c)) + m * -c = m * c + 2 * c := by omega
    rw [e, if_neg (by omega)]
    have q : (m * c + 2 * c) * (m * c + 2 * c) + (m * m + 4) * (-c * - -c) = 4 * (m * (c * c)) := by grind
    omega
  · unfold side
    rw [if_pos b0]
    have e1 : m * -c = -(m * c) := by grind
    have e : 2 * (a - (a + m * -c + 1)) + m * -c = m * c - 2 := by omega
    rw [e]
    have z : (m * m + 4) * (-c * - -c) = -((m * m + 4) * (c * c)) := by grind
    rw [z]
    split
    · rename_i k
      have q : (m * c - 2) * -(m * c - 2) = -((m * c - 2) * (m * c - 2)) := by grind
      have := Int.mul_pos_of_neg_of_neg k k
      omega
    · have q : (m * c - 2) * (m * c - 2) - (m * m + 4) * (c * c) = 4 - 4 * (m * c) - 4 * (c * c) := by grind
      omega
theorem bound {m b : Int} (h1 : 1 ≤ m) (h4 : m ≤ 4) (hb : mag b ≤ 1000000) : -4000000 ≤ m * b ∧ m * b ≤ 4000000 := by
  have h : -1000000 ≤ b ∧ b ≤ 1000000 := by
    unfold mag at hb
    split at hb <;> omega
  rcases (by omega : m = 1 ∨ m = 2 ∨ m = 3 ∨ m = 4) with rfl | rfl | rfl | rfl <;> omega
theorem start {m L H : Int} {x : List Int} (h1 : 1 ≤ m) (h4 : m ≤ 4) (ha : mag (x.getD (Int.toNat 0) 0) ≤ 1000000) (hb : mag (x.getD (Int.toNat 1) 0) ≤ 1000000)
    (l1 : L = x.getD (Int.toNat 0) 0 + m * x.getD (Int.toNat 1) 0 ∨ L = x.getD (Int.toNat 0) 0 + (m + 1) * x.getD (Int.toNat 1) 0)
    (l2 : L ≤ x.getD (Int.toNat 0) 0 + m * x.getD (Int.toNat 1) 0 ∧ L ≤ x.getD (Int.toNat 0) 0 + (m + 1) * x.getD (Int.toNat 1) 0)
    (g1 : H = x.getD (Int.toNat 0) 0 + m * x.getD (Int.toNat 1) 0 ∨ H = x.getD (Int.toNat 0) 0 + (m + 1) * x.getD (Int.toNat 1) 0)
    (g2 : x.getD (Int.toNat 0) 0 + m * x.getD (Int.toNat 1) 0 ≤ H ∧ x.getD (Int.toNat 0) 0 + (m + 1) * x.getD (Int.toNat 1) 0 ≤ H) :
    L < H + 1 ∧ -6000001 ≤ L ∧ H + 1 ≤ 6000001 ∧ Inv m x L (H + 1) := by
  suffices s : L < H + 1 ∧ -6000001 ≤ L ∧ H + 1 ≤ 6000001 ∧ 0 ≤ side m (x.getD (Int.toNat 0) 0 - L) (x.getD (Int.toNat 1) 0) ∧ side m (x.getD (Int.toNat 0) 0 - (H + 1)) (x.getD (Int.toNat 1) 0) < 0 from
    ⟨s.1, s.2.1, s.2.2.1, ⟨s.2.2.2.1, s.2.2.2.2⟩⟩
  generalize x.getD (Int.toNat 0) 0 = a at *
  generalize x.getD (Int.toNat 1) 0 = b at *
  have mb := bound h1 h4 hb
  have a0 : -1000000 ≤ a ∧ a ≤ 1000000 := by
    unfold mag at ha
    split at ha <;> omega
  have b1 : -1000000 ≤ b ∧ b ≤ 1000000 := by
    unfold mag at hb
    split at hb <;> omega
  have e : (m + 1) * b = m * b + b := by grind
  refine ⟨by omega, by omega, by omega, ?_⟩
  rcases (by omega : 0 ≤ b ∨ b < 0) with b0 | b0
  · have s := start_up (a := a) h1 b0
    have eL : L = a + m * b := by omega
    have eH : H = a + (m + 1) * b := by omega
    rw [eL, eH]
    exact s
  · have s := start_down (a := a) h1 b0
    have eL : L = a + (m + 1) * b := by omega
    have eH : H = a + m * b := by omega
    rw [eL, eH]
    exact s
theorem turn_hi {m l h : Int} {x : List Int} (k : 1 < h - l) (hl : -6000001 ≤ l) (hh : h ≤ 6000001) (i : Inv m x l h)
    (t : side m (x.getD (Int.toNat 0) 0 - (l + h).fdiv 2) (x.getD (Int.toNat 1) 0) < 0) :
    l < (l + h).fdiv 2 ∧ -6000001 ≤ l ∧ (l + h).fdiv 2 ≤ 6000001 ∧ Inv m x l ((l + h).fdiv 2) :=
  ⟨mid_lo k, hl, by have := mid_hi k; omega, ⟨i.lo, t⟩⟩
theorem turn_lo {m l h : Int} {x : List Int} (k : 1 < h - l) (hl : -6000001 ≤ l) (hh : h ≤ 6000001) (i : Inv m x l h)
    (t : ¬ side m (x.getD (Int.toNat 0) 0 - (l + h).fdiv 2) (x.getD (Int.toNat 1) 0) < 0) :
    (l + h).fdiv 2 < h ∧ -6000001 ≤ (l + h).fdiv 2 ∧ h ≤ 6000001 ∧ Inv m x ((l + h).fdiv 2) h :=
  ⟨mid_hi k, by have := mid_lo k; omega, hh, ⟨by omega, i.hi⟩⟩
theorem less_hi {l h : Int} (k : 1 < h - l) : ((l + h).fdiv 2 - l).toNat < (h - l).toNat := by
  have := mid_lo k
  have := mid_hi k
  omega
theorem less_lo {l h : Int} (k : 1 < h - l) : (h - (l + h).fdiv 2).toNat < (h - l).toNat := by
  have := mid_lo k
  have := mid_hi k
  omega
theorem floor_m {m : Int} {x : List Int} (h : ¬ (1 ≤ m ∧ m ≤ 4)) : PyKzv1.floor m x = [-22] := by
  show (let a := Kzv1.answer (.floor m.toNat x); a.value :: a.nums) = _
  simp only [Kzv1.answer, okM_no h, if_true, Kzv1.say]
theorem floor_x {m : Int} {x : List Int} (h1 : 1 ≤ m) (h4 : m ≤ 4) (h : Kzv1.readZ x = none) : PyKzv1.floor m x = [-22] := by
  show (let a := Kzv1.answer (.floor m.toNat x); a.value :: a.nums) = _
  simp only [Kzv1.answer, okM_yes h1 h4, Kzv1.withZ, h, Kzv1.say]
  try rfl
theorem floor_z {m l h : Int} {x : List Int} (h1 : 1 ≤ m) (h4 : m ≤ 4) (n : (x.length : Int) = 2) (ha : mag (x.getD (Int.toNat 0) 0) ≤ 1000000) (hb : mag (x.getD (Int.toNat 1) 0) ≤ 1000000)
    (lt : l < h) (no : ¬ 1 < h - l) (i : Inv m x l h) : PyKzv1.floor m x = [0, l] := by
  have r := readZ_ok n ha hb
  have e : h = l + 1 := by omega
  subst e
  have q := floor_is h1 h4 (by have := mag_nat (x.getD (Int.toNat 1) 0); omega) i.lo i.hi
  show (let a := Kzv1.answer (.floor m.toNat x); a.value :: a.nums) = _
  simp only [Kzv1.answer, okM_yes h1 h4, Kzv1.withZ, r, q]
  try rfl
theorem said : PySem.Challenge.rw_partnernumbers_s07_floor.wellSaid = true := by decide +kernel
theorem fin {m : Int} {x ans : List Int} (hp : PySem.Challenge.rw_partnernumbers_s07_floor.pre [WData.int m, ofPy (PyData.list (x.map PyData.int))] = true)
    (h : PyKzv1.floor m x = ans) :
    PySem.Challenge.rw_partnernumbers_s07_floor.post [WData.int m, ofPy (PyData.list (x.map PyData.int))] (ofPy (PyData.list (ans.map PyData.int))) = true := by
  obtain ⟨a, w, q, e⟩ := os_pre said hp
  rw [e]
  refine os_shut said w ?_
  obtain ⟨m', x', u⟩ := a
  have e1 := os_j_int (List.cons.inj e).1
  have e2 := os_j_ints (List.cons.inj (List.cons.inj e).2).1
  subst e1 e2
  subst h
  exact os_list rfl
end My
set_option maxRecDepth 100000 in
set_option maxHeartbeats 8000000 in
theorem PySem.Challenge.cw_partnernumbers_s07_floor_holds : PySem.Challenge.rw_partnernumbers_s07_floor.Holds := by
  (k_with "measure" => first | exact My.less_hi (by assumption) | exact My.less_lo (by assumption))
  (k_with "state" => first
    | exact My.start (by assumption) (by assumption) (by assumption) (by assumption) (by assumption) (by assumption) (by assumption) (by assumption)
    | exact My.turn_hi (by assumption) (by assumption) (by assumption) (by assumption) (by assumption)
    | exact My.turn_lo (by assumption) (by assumption) (by assumption) (by assumption) (by assumption))
  (k_with "exec While Compare cons nil" => k_while_given ["m"] (fun m x low high => low < high ∧ -6000001 ≤ low ∧ high ≤ 6000001 ∧ My.Inv m x low high) (fun _ _ low high => (high - low).toNat) "low" "high")
  open_ks with [.int 0, .list []]
  all_goals first
    | exact My.fin (ans := [-22]) hpre (My.floor_m (My.m_no (by assumption)))
    | exact My.fin (ans := [-22]) hpre (My.floor_m fun k => absurd k.1 (by assumption))
    | exact My.fin (ans := [-22]) hpre (My.floor_m fun k => absurd k.2 (by assumption))
    | exact My.fin (ans := [-22]) hpre (My.floor_x (by assumption) (by assumption) (My.readZ_len (by assumption)))
    | exact My.fin (ans := [-22]) hpre (My.floor_x (by assumption) (by assumption) (My.readZ_bad1 (by assumption) (by assumption)))
    | exact My.fin (ans := [-22]) hpre (My.floor_x (by assumption) (by assumption) (My.readZ_bad2 (by assumption) (by assumption)))
    | exact My.fin (ans := _) hpre (My.floor_z (by assumption) (by assumption) (by assumption) (by assumption) (by assumption) (by assumption) (by assumption) (by assumption))
#print axioms PySem.Challenge.cw_partnernumbers_s07_floor_holds
