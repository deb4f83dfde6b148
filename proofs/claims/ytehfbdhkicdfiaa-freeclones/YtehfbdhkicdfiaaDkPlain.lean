/- Plain mathematics of disks: what lasts, what is pending, as plain functions; no program is named here. No conditions. -/
import Derived.Below
namespace Go.Proofs.Ytehfbdhkicdfiaa
set_option linter.unusedVariables false

theorem snocRec {α : Type} {m : List α → Prop} (h0 : m []) (h1 : ∀ r x, m r → m (r ++ [x])) : ∀ l, m l := by
  intro l
  rw [← List.reverse_reverse l]
  induction l.reverse with
  | nil => exact h0
  | cons x r ih => rw [List.reverse_cons]; exact h1 _ _ ih
/-- A disk: how many pages; what lasts of each; the pending writes; how many steps are left (below 0: no end); is it down. -/
structure Dk where
  pages : Nat
  last : Int → List UInt8
  pend : List (Int × List UInt8)
  arm : Int
  down : Bool

def zero512 : List UInt8 := List.replicate 512 0
theorem zero512_len : zero512.length = 512 := List.length_replicate
/-- a laid over the front of l. -/
def over (a l : List UInt8) : List UInt8 := a ++ l.drop a.length
theorem over_len {a l : List UInt8} (h : a.length ≤ l.length) : (over a l).length = l.length := by
  unfold over
  rw [List.length_append, List.length_drop]
  omega
theorem over_nil (l : List UInt8) : over [] l = l := rfl
theorem over_all {a l : List UInt8} (h : a.length = l.length) : over a l = a := by
  unfold over
  rw [List.drop_of_length_le (by omega), List.append_nil]
/-- What a page has: the last pending write, or what lasts. -/
def hasIn (n : Int) (b : List UInt8) : List (Int × List UInt8) → List UInt8
  | [] => b
  | x :: r => hasIn n (if x.1 = n then x.2 else b) r
def Dk.has (d : Dk) (n : Int) : List UInt8 := hasIn n (d.last n) d.pend
theorem hasIn_append (n : Int) : ∀ (l m : List (Int × List UInt8)) (b : List UInt8), hasIn n b (l ++ m) = hasIn n (hasIn n b l) m
  | [], m, b => rfl
  | x :: r, m, b => hasIn_append n r m _
theorem hasIn_len (n : Int) : ∀ (l : List (Int × List UInt8)) (b : List UInt8), b.length = 512 → (∀ x ∈ l, x.2.length = 512) → (hasIn n b l).length = 512
  | [], b, hb, _ => hb
  | x :: r, b, hb, h => by
    refine hasIn_len n r _ ?_ (fun y hy => h y (List.mem_cons_of_mem _ hy))
    split
    · exact h x (List.mem_cons_self ..)
    · exact hb
/-- The place of a page's last pending write. -/
def newIn (n : Int) : List (Int × List UInt8) → Nat → Option Nat → Option Nat
  | [], _, a => a
  | x :: r, i, a => newIn n r (i + 1) (if x.1 = n then some i else a)
def newest (l : List (Int × List UInt8)) (n : Int) : Option Nat := newIn n l 0 none
theorem newIn_append (n : Int) : ∀ (l m : List (Int × List UInt8)) (i : Nat) (a : Option Nat), newIn n (l ++ m) i a = newIn n m (i + l.length) (newIn n l i a)
  | [], m, i, a => rfl
  | x :: r, m, i, a => by
    show newIn n (r ++ m) (i + 1) _ = _
    rw [newIn_append n r m]
    show _ = newIn n m (i + (r.length + 1)) _
    rw [show i + (r.length + 1) = i + 1 + r.length by omega]
    rfl
theorem newest_snoc (l : List (Int × List UInt8)) (x : Int × List UInt8) (n : Int) : newest (l ++ [x]) n = if x.1 = n then some l.length else newest l n := by
  unfold newest
  rw [newIn_append]
  show (if x.1 = n then some (0 + l.length) else newIn n l 0 none) = _
  rw [Nat.zero_add]
theorem newest_some (n : Int) : ∀ (l : List (Int × List UInt8)) (i : Nat), newest l n = some i → ∃ (h : i < l.length), ∀ b, hasIn n b l = (l[i]).2 := by
  refine snocRec ?_ ?_
  · intro i h; cases h
  · intro r x ih i h
    rw [newest_snoc] at h
    by_cases hx : x.1 = n
    · rw [if_pos hx] at h
      cases h
      refine ⟨by simp, fun b => ?_⟩
      rw [hasIn_append]
      show (if x.1 = n then x.2 else _) = _
      rw [if_pos hx]
      simp
    · rw [if_neg hx] at h
      obtain ⟨hi, hb⟩ := ih i h
      refine ⟨by simp; omega, fun b => ?_⟩
      rw [hasIn_append]
      show (if x.1 = n then x.2 else _) = _
      rw [if_neg hx, hb b, List.getElem_append_left hi]
theorem newest_none (n : Int) : ∀ l : List (Int × List UInt8), newest l n = none → ∀ b, hasIn n b l = b := by
  refine snocRec ?_ ?_
  · intro _ b; rfl
  · intro r x ih h b
    rw [newest_snoc] at h
    by_cases hx : x.1 = n
    · rw [if_pos hx] at h; cases h
    · rw [if_neg hx] at h
      rw [hasIn_append]
      show (if x.1 = n then x.2 else _) = _
      rw [if_neg hx]
      exact ih h b
/-- One page's bytes turn. -/
def putP (L : Int → List UInt8) (n : Int) (b : List UInt8) : Int → List UInt8 := fun k => if k = n then b else L k
/-- Of each pending write so many first bytes last. -/
def settleIn (c : Nat → Nat) : List (Int × List UInt8) → Nat → (Int → List UInt8) → (Int → List UInt8)
  | [], _, L => L
  | x :: r, i, L => settleIn c r (i + 1) (putP L x.1 (over (x.2.take (c i)) (L x.1)))
theorem settleIn_snoc (c : Nat → Nat) (x : Int × List UInt8) : ∀ (l : List (Int × List UInt8)) (i : Nat) (L : Int → List UInt8),
    settleIn c (l ++ [x]) i L = putP (settleIn c l i L) x.1 (over (x.2.take (c (i + l.length))) (settleIn c l i L x.1))
  | [], i, L => rfl
  | y :: r, i, L => by
    show settleIn c (r ++ [x]) (i + 1) _ = _
    rw [settleIn_snoc c x r (i + 1)]
    rw [show i + 1 + r.length = i + (y :: r).length by simp; omega]
    rfl
theorem settleIn_len (c : Nat → Nat) : ∀ (l : List (Int × List UInt8)) (i : Nat) (L : Int → List UInt8), (∀ k, (L k).length = 512) → (∀ x ∈ l, x.2.length = 512) → ∀ k, (settleIn c l i L k).length = 512
  | [], _, L, hL, _, k => hL k
  | x :: r, i, L, hL, hx, k => by
    refine settleIn_len c r (i + 1) _ (fun j => ?_) (fun y hy => hx y (List.mem_cons_of_mem _ hy)) k
    unfold putP
    split
    · rw [over_len (by rw [hL, List.length_take, hx x (List.mem_cons_self ..)]; omega), hL]
    · exact hL j
/-- A step: the power may fail there. -/
def Dk.stepped (d : Dk) : Dk := if d.arm = 0 then { d with down := true } else if 0 < d.arm then { d with arm := d.arm - 1 } else d
def Dk.reach (d : Dk) (n : Int) : Int := if d.down then 9 else if n < 0 ∨ (d.pages : Int) ≤ n then 2 else 0
def Dk.push (d : Dk) (n : Int) (b : List UInt8) : Dk := { d with pend := d.pend ++ [(n, b)] }
def Dk.settled (d : Dk) (c : Nat → Nat) : Dk := { d with last := settleIn c d.pend 0 d.last, pend := [] }
/-- Write: the error, and the disk behind it. -/
def Dk.wrErr (d : Dk) (n : Int) (b : List UInt8) : Int := if d.reach n ≠ 0 then d.reach n else if b.length ≠ 512 then 3 else if d.arm = 0 then 9 else 0
def Dk.wr (d : Dk) (n : Int) (b : List UInt8) : Dk := if d.reach n ≠ 0 then d else if b.length ≠ 512 then d else if d.arm = 0 then d.stepped else d.stepped.push n b
def Dk.syErr (d : Dk) : Int := if d.down then 9 else if d.arm = 0 then 9 else 0
def Dk.sy (d : Dk) : Dk := if d.down then d else if d.arm = 0 then d.stepped else d.stepped.settled (fun _ => 512)
def Dk.armed (d : Dk) (n : Int) : Dk := { d with arm := max n (-1) }
/-- How many bytes of the write at a place last. -/
def keeps (keep : List Bool) (torn cut : Int) (i : Nat) : Nat := if (i : Int) = torn then (min (max cut 0) 512).toNat else if keep.getD i false then 512 else 0
def Dk.mended (d : Dk) (keep : List Bool) (torn cut : Int) : Dk := { d.settled (keeps keep torn cut) with arm := -1, down := false }
def Dk.fresh (pages : Nat) : Dk := ⟨pages, fun _ => zero512, [], -1, false⟩
/-- Right: each page has 512 bytes; the steps are no less than -1; what lies outside is nought. -/
structure Dk.ok (d : Dk) : Prop where
  last : ∀ k, (d.last k).length = 512
  pend : ∀ x ∈ d.pend, x.2.length = 512
  page : ∀ x ∈ d.pend, 0 ≤ x.1 ∧ x.1 < d.pages
  arm1 : -1 ≤ d.arm
  arm2 : d.arm ≤ 9223372036854775807
  pages : d.pages ≤ 4096
theorem Dk.ok.has {d : Dk} (h : d.ok) (n : Int) : (d.has n).length = 512 := hasIn_len n _ _ (h.last n) h.pend
theorem Dk.ok.stepped {d : Dk} (h : d.ok) : d.stepped.ok := by
  unfold Dk.stepped
  split
  · exact ⟨h.last, h.pend, h.page, h.arm1, h.arm2, h.pages⟩
  · split
    · exact ⟨h.last, h.pend, h.page, by show -1 ≤ d.arm - 1; omega, by show d.arm - 1 ≤ _; have := h.arm2; omega, h.pages⟩
    · exact h
theorem Dk.ok.settled {d : Dk} (h : d.ok) (c : Nat → Nat) : (d.settled c).ok :=
  ⟨settleIn_len c _ _ _ h.last h.pend, fun x hx => (by cases hx), fun x hx => (by cases hx), h.arm1, h.arm2, h.pages⟩
theorem Dk.ok.push {d : Dk} (h : d.ok) {n : Int} {b : List UInt8} (hb : b.length = 512) (h0 : 0 ≤ n) (h1 : n < d.pages) : (d.push n b).ok := by
  refine ⟨h.last, fun x hx => ?_, fun x hx => ?_, h.arm1, h.arm2, h.pages⟩
  · rcases List.mem_append.1 hx with hx | hx
    · exact h.pend x hx
    · rw [List.mem_singleton] at hx; subst hx; exact hb
  · rcases List.mem_append.1 hx with hx | hx
    · exact h.page x hx
    · rw [List.mem_singleton] at hx; subst hx; exact ⟨h0, h1⟩
theorem Dk.ok.mended {d : Dk} (h : d.ok) (keep : List Bool) (torn cut : Int) : (d.mended keep torn cut).ok :=
  have k := h.settled (keeps keep torn cut)
  ⟨k.last, k.pend, k.page, by show (-1 : Int) ≤ -1; omega, by show (-1 : Int) ≤ _; omega, k.pages⟩
theorem Dk.ok.armed {d : Dk} (h : d.ok) (n : Int) (hn : n ≤ 9223372036854775807) : (d.armed n).ok :=
  ⟨h.last, h.pend, h.page, by show -1 ≤ max n (-1); omega, by show max n (-1) ≤ _; omega, h.pages⟩
theorem Dk.fresh_ok {pages : Nat} (h : pages ≤ 4096) : (Dk.fresh pages).ok :=
  ⟨fun _ => zero512_len, fun x hx => (by cases hx), fun x hx => (by cases hx), by show (-1 : Int) ≤ -1; omega, by show (-1 : Int) ≤ _; omega, h⟩
theorem Dk.stepped_pages (d : Dk) : d.stepped.pages = d.pages := by unfold Dk.stepped; split <;> (try split) <;> rfl
theorem Dk.reach_ok {d : Dk} {n : Int} (h : d.reach n = 0) : d.down = false ∧ 0 ≤ n ∧ n < d.pages := by
  unfold Dk.reach at h
  split at h
  · cases h
  · rename_i hd
    split at h
    · cases h
    · rename_i hn
      exact ⟨by simpa using hd, by omega, by omega⟩
theorem Dk.ok.wr {d : Dk} (h : d.ok) (n : Int) (b : List UInt8) : (d.wr n b).ok := by
  unfold Dk.wr
  split
  · exact h
  · rename_i hr
    obtain ⟨_, h0, h1⟩ := Dk.reach_ok (by simpa using hr)
    split
    · exact h
    · rename_i hb
      split
      · exact h.stepped
      · exact h.stepped.push (by simpa using hb) h0 (by rw [Dk.stepped_pages]; exact h1)
theorem Dk.ok.sy {d : Dk} (h : d.ok) : d.sy.ok := by
  unfold Dk.sy
  split
  · exact h
  · split
    · exact h.stepped
    · exact h.stepped.settled _
end Go.Proofs.Ytehfbdhkicdfiaa
