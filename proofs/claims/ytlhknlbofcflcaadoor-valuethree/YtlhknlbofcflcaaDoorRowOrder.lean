/- The order of rows is one, as plain mathematics: turned about, its sign turns; rows of one length stand in one order, each place turned about or not. No program is named here. No conditions. -/
import Derived.Test.YtlhknlbofcflcaaDoorValOrder
namespace Go.Proofs.YtlhknlbofcflcaaDoor

/-- How two values stand at a place, turned about or not. -/
def cmpD (d : Bool) (a b : Val) : Int := if d then -(cmpV a b) else cmpV a b
theorem cmpD_turn (d : Bool) (a b : Val) : cmpD d a b = -cmpD d b a := by
  unfold cmpD
  have := cmpV_turn a b
  split <;> omega
theorem cmpD_trans (d : Bool) (a b c : Val) (h1 : cmpD d a b ≤ 0) (h2 : cmpD d b c ≤ 0) : cmpD d a c ≤ 0 ∧ ((cmpD d a b = 0 ∧ cmpD d b c = 0) ∨ cmpD d a c < 0) := by
  unfold cmpD at *
  cases d
  · simp only [Bool.false_eq_true, if_false] at *
    exact cmpV_trans a b c h1 h2
  · simp only [if_true] at *
    have t1 := cmpV_turn a b
    have t2 := cmpV_turn b c
    have t3 := cmpV_turn a c
    have := cmpV_trans c b a (by omega) (by omega)
    omega
theorem cmpD_zero (d : Bool) (a b : Val) : cmpD d a b = 0 ↔ cmpV a b = 0 := by unfold cmpD; split <;> omega

theorem cmpRow_cons (a b : Val) (as bs : List Val) (ds : List Bool) : cmpRow (a :: as) (b :: bs) ds = if cmpD (ds.headD false) a b = 0 then cmpRow as bs ds.tail else cmpD (ds.headD false) a b := by
  conv => lhs; unfold cmpRow
  by_cases h : cmpV a b = 0
  · rw [if_pos h, if_pos ((cmpD_zero _ _ _).2 h)]
  · rw [if_neg h, if_neg (fun e => h ((cmpD_zero _ _ _).1 e))]
    rfl

theorem cmpRow_turn : ∀ (as bs : List Val) (ds : List Bool), cmpRow as bs ds = -cmpRow bs as ds
  | [], [], _ => by simp [cmpRow]
  | [], _ :: _, _ => by simp [cmpRow]
  | _ :: _, [], _ => by simp [cmpRow]
  | a :: as, b :: bs, ds => by
    rw [cmpRow_cons, cmpRow_cons]
    have ih := cmpRow_turn as bs ds.tail
    have t := cmpD_turn (ds.headD false) a b
    by_cases h : cmpD (ds.headD false) a b = 0
    · rw [if_pos h, if_pos (by omega)]; exact ih
    · rw [if_neg h, if_neg (by omega)]; exact t
theorem cmpRow_self (as : List Val) (ds : List Bool) : cmpRow as as ds = 0 := by have := cmpRow_turn as as ds; omega

theorem cmpRow_trans : ∀ (as bs cs : List Val) (ds : List Bool), as.length = bs.length → bs.length = cs.length → cmpRow as bs ds ≤ 0 → cmpRow bs cs ds ≤ 0 → cmpRow as cs ds ≤ 0 ∧ ((cmpRow as bs ds = 0 ∧ cmpRow bs cs ds = 0) ∨ cmpRow as cs ds < 0)
  | [], [], [], _, _, _, _, _ => by simp [cmpRow]
  | a :: as, b :: bs, c :: cs, ds, l1, l2, h1, h2 => by
    have ih := cmpRow_trans as bs cs ds.tail (by simpa using l1) (by simpa using l2)
    have s1 := cmpRow_cons a b as bs ds
    have s2 := cmpRow_cons b c bs cs ds
    have s3 := cmpRow_cons a c as cs ds
    have tr := cmpD_trans (ds.headD false) a b c
    have tr' := cmpD_trans (ds.headD false) c b a
    have t1 := cmpD_turn (ds.headD false) a b
    have t2 := cmpD_turn (ds.headD false) b c
    have t3 := cmpD_turn (ds.headD false) a c
    by_cases e1 : cmpD (ds.headD false) a b = 0
    · rw [if_pos e1] at s1
      by_cases e2 : cmpD (ds.headD false) b c = 0
      · have e3 : cmpD (ds.headD false) a c = 0 := by have := tr (by omega) (by omega); have := tr' (by omega) (by omega); omega
        rw [if_pos e2] at s2
        rw [if_pos e3] at s3
        have := ih (by omega) (by omega)
        omega
      · rw [if_neg e2] at s2
        have := tr (by omega) (by omega)
        rw [if_neg (by omega)] at s3
        omega
    · rw [if_neg e1] at s1
      have h2' : cmpD (ds.headD false) b c ≤ 0 := by
        by_cases e2 : cmpD (ds.headD false) b c = 0
        · omega
        · rw [if_neg e2] at s2; omega
      have := tr (by omega) h2'
      rw [if_neg (show ¬ cmpD (ds.headD false) a c = 0 by omega)] at s3
      omega

/-- All places turned about: the other way round. -/
theorem cmpRow_turned : ∀ (as bs : List Val) (ds ts : List Bool), as.length = bs.length → (∀ i, i < as.length → ts.getD i false = !(ds.getD i false)) → cmpRow as bs ts = -cmpRow as bs ds
  | [], [], _, _, _, _ => by simp [cmpRow]
  | a :: as, b :: bs, ds, ts, l, h => by
    rw [cmpRow_cons, cmpRow_cons]
    have h0 := h 0 (by simp)
    have e1 : ts.headD false = ts.getD 0 false := by cases ts <;> rfl
    have e2 : ds.headD false = ds.getD 0 false := by cases ds <;> rfl
    have hd : cmpD (ts.headD false) a b = -cmpD (ds.headD false) a b := by
      rw [e1, h0, e2]
      unfold cmpD
      cases ds.getD 0 false <;> simp
    have g : ∀ (l : List Bool) (i : Nat), l.tail.getD i false = l.getD (i + 1) false := by intro l i; cases l <;> simp
    have ih := cmpRow_turned as bs ds.tail ts.tail (by simpa using l) (fun i hi => by rw [g, g]; exact h (i + 1) (by simpa using hi))
    by_cases hz : cmpD (ds.headD false) a b = 0
    · rw [if_pos (by omega), if_pos hz]; exact ih
    · rw [if_neg (by omega), if_neg hz]; exact hd
end Go.Proofs.YtlhknlbofcflcaaDoor
