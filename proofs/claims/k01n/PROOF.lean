import PyProof.Rows.All
import Wide.All
import OpenK.AllK
import Wide.FinOn
import PySem.Challenge.RW_guardline_k01_signs_and_turned_numbers
open PySem PySem.W PyProof.Rows
set_option Elab.async false
namespace G
def inv37 : List Int := [0, 1, 19, 25, 28, 15, 31, 16, 14, 33, 26, 27, 34, 20, 8, 5, 7, 24, 35, 2, 13, 30, 32, 29, 17, 3, 10, 11, 4, 23, 21, 6, 22, 9, 12, 18, 36]
def turn (n : Int) : Int := inv37.getD (n % 37).toNat 0
theorem hit_tab : ∀ k : Fin 37, ∀ r : Fin 37, ((k.val : Int) * (r.val : Int)) % 37 = 1 → (k.val : Int) = inv37.getD r.val 0 := by decide +kernel
theorem turn_tab : ∀ r : Fin 37, r.val ≠ 0 → ((r.val : Int) * inv37.getD r.val 0) % 37 = 1 := by decide +kernel
theorem turn_rng : ∀ r : Fin 37, 0 ≤ inv37.getD r.val 0 ∧ inv37.getD r.val 0 ≤ 36 := by decide +kernel
theorem zero_tab : ∀ a : Fin 37, ∀ b : Fin 37, ((a.val : Int) * (b.val : Int)) % 37 = 0 → a.val = 0 ∨ b.val = 0 := by decide +kernel
theorem mod_lo (n : Int) : 0 ≤ n % 37 := Int.emod_nonneg n (by decide)
theorem mod_hi (n : Int) : n % 37 < 37 := Int.emod_lt_of_pos n (by decide)
theorem mul_mod (k n : Int) : (k * n) % 37 = (k * (n % 37)) % 37 := by
  rw [Int.mul_emod, Int.mul_emod k (n % 37), Int.emod_emod_of_dvd]
  exact Int.dvd_refl _
theorem mul_mod' (k n : Int) : (k * n) % 37 = ((k % 37) * n) % 37 := by
  rw [Int.mul_comm, mul_mod, Int.mul_comm]
theorem hit {k n : Int} (h : (k * n) % 37 = 1) (h0 : 0 ≤ k) (h1 : k < 37) : k = turn n := by
  have a := mod_lo n
  have b := mod_hi n
  have t := hit_tab ⟨k.toNat, by omega⟩ ⟨(n % 37).toNat, by omega⟩
  rw [mul_mod] at h
  have ek : ((k.toNat : Nat) : Int) = k := by omega
  have en : (((n % 37).toNat : Nat) : Int) = n % 37 := by omega
  dsimp only at t
  rw [ek, en] at t
  exact t h
theorem turn_good {n : Int} (h : n % 37 ≠ 0) : (turn n * n) % 37 = 1 := by
  have a := mod_lo n
  have b := mod_hi n
  have t := turn_tab ⟨(n % 37).toNat, by omega⟩ (by show (n % 37).toNat ≠ 0; omega)
  have en : (((n % 37).toNat : Nat) : Int) = n % 37 := by omega
  dsimp only at t
  rw [en] at t
  rw [mul_mod, Int.mul_comm]
  exact t
theorem turn_in (n : Int) : 0 ≤ turn n ∧ turn n ≤ 36 := by
  have a := mod_lo n
  have b := mod_hi n
  exact turn_rng ⟨(n % 37).toNat, by omega⟩
theorem turn_zero {n : Int} (h : n % 37 = 0) : turn n = 0 := by
  unfold turn; rw [h]; rfl
/-- the numbers tried so far don't fit -/
structure Miss (n : Int) (pre : List Int) : Prop where
  no : ∀ c ∈ pre, ¬ Int.fmod (c * n) 37 = 1
theorem fm (x : Int) : Int.fmod x 37 = x % 37 := Int.fmod_eq_emod_of_nonneg x (by decide)
theorem miss0 (n : Int) : Miss n [] := ⟨fun _ h => nomatch h⟩
theorem miss1 {n c : Int} {pre : List Int} (H : Miss n pre) (h : ¬ Int.fmod (c * n) 37 = 1) : Miss n (pre ++ [c]) := by
  refine ⟨fun z hz => ?_⟩
  rcases List.mem_append.mp hz with hz | hz
  · exact H.no z hz
  · rw [List.mem_singleton.mp hz]
    exact h
theorem hitF {c n : Int} (h : Int.fmod (c * n) 37 = 1) (h0 : 0 ≤ c) (h1 : c < 37) : c = turn n := by
  rw [fm] at h
  exact hit h h0 h1
theorem noneF {n : Int} (H : Miss n (PySem.W.rangeKs 1 36)) : 0 = turn n := by
  by_cases z : n % 37 = 0
  · exact (turn_zero z).symm
  · have g := turn_good z
    have r := turn_in n
    have p : turn n ≠ 0 := by
      intro e
      rw [e, Int.zero_mul] at g
      exact absurd g (by decide)
    refine absurd (by rw [fm]; exact g) (H.no (turn n) ?_)
    unfold PySem.W.rangeKs
    exact List.mem_map.mpr ⟨(turn n - 1).toNat, List.mem_range.mpr (by omega), by omega⟩
theorem rest_eq (n : Int) : Int.fmod n 37 = n - Int.fdiv n 37 * 37 := by
  rw [Int.fmod_def]
  omega
theorem rest_turn {n : Int} (h : 0 < n - Int.fdiv n 37 * 37) : Int.fmod ((n - Int.fdiv n 37 * 37) * turn n - 1) 37 = 0 := by
  rw [← rest_eq, fm] at h
  have g := turn_good (n := n) (by omega)
  rw [← rest_eq, fm, fm]
  have e : (n % 37 * turn n) % 37 = 1 := by rw [← mul_mod', Int.mul_comm]; exact g
  omega
theorem rest_none {n : Int} (h : n - Int.fdiv n 37 * 37 = 0) : turn n = 0 := by
  rw [← rest_eq, fm] at h
  exact turn_zero h

theorem turn_lo (n : Int) : 0 ≤ turn n ∧ turn n ≤ 36 ∧ (n - Int.fdiv n 37 * 37 = 0 → turn n = 0) ∧ (0 < n - Int.fdiv n 37 * 37 → Int.fmod ((n - Int.fdiv n 37 * 37) * turn n - 1) 37 = 0) ∧ Int.fmod n 37 = n - Int.fdiv n 37 * 37 :=
  ⟨(turn_in n).1, (turn_in n).2, rest_none, rest_turn, rest_eq n⟩
end G
local macro_rules | `(tactic| walk_at "exec For Name BinOp cons nil") => `(tactic| (k_here; (rename Fr _ _ _ _ => lF'); (with_unfolding_all refine' For_invVF lF' ?k1 ?k2 ?_; (case k1 => exact rfl); (case k2 => exact rfl); k_whole)))
set_option maxRecDepth 100000 in
set_option maxHeartbeats 8000000 in
theorem PySem.Challenge.cw_guardline_k01_signs_and_turned_numbers_holds : PySem.Challenge.rw_guardline_k01_signs_and_turned_numbers.Holds := by
  k_with "state" => (first
    | exact G.miss0 _
    | exact G.miss1 (by assumption) (by first | assumption | omega))
  k_with "tree" => (first
    | exact G.hitF (by assumption) (by omega) (by omega)
    | exact G.noneF (by assumption))
  k_with "fact turned" => exact G.turn_lo
  k_with "call ref" => (k_call_by "turned" G.turn)
  k_with "exec For Name Call cons nil" => (k_of "candidate" => (k_here; (rename Fr _ _ _ _ => lF'); (with_unfolding_all refine' For_invVF lF' ?k1 ?k2 ?_; (case k1 => exact rfl); (case k2 => exact rfl); k_whole)))
  k_with "pyIter ref" => (k_of "candidate" => (rename Int => nn; k_search (fun pre => G.Miss nn pre)))
  k_with "pyIter ref" => (k_of "_law_number" => k_search (fun _ => True))
  open_k
#print axioms PySem.Challenge.cw_guardline_k01_signs_and_turned_numbers_holds
