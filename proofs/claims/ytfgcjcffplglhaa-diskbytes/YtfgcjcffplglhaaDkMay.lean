/- DiskBytes: what a page may have, in numbers and in memory. No conditions. -/
import Derived.Test.YtfgcjcffplglhaaDImagesWalk
import Derived.ArgAppend
namespace Go.Proofs.Ytfgcjcffplglhaa
open Go.RowKit
set_option linter.unusedVariables false
set_option maxRecDepth 20000

/-- What a page may have: what lasts, then the pending writes. -/
def mine2 (n : Int) (l : List (Int × List UInt8)) : List (List UInt8) := (l.filter (fun x => decide (x.1 = n))).map (·.2)
def mayOf (d : Dk) (n : Nat) : List (List UInt8) := d.last (n : Int) :: mine2 (n : Int) d.pend
theorem mine2_nil (n : Int) : mine2 n [] = [] := rfl
theorem mine2_cons (n : Int) (x : Int × List UInt8) (r : List (Int × List UInt8)) : mine2 n (x :: r) = if x.1 = n then x.2 :: mine2 n r else mine2 n r := by
  unfold mine2
  by_cases h : x.1 = n <;> simp [h]
theorem mine2_snoc (n : Int) (l : List (Int × List UInt8)) (x : Int × List UInt8) : mine2 n (l ++ [x]) = mine2 n l ++ (if x.1 = n then [x.2] else []) := by
  unfold mine2
  by_cases h : x.1 = n <;> simp [h]
theorem mine2_len (n : Int) (l : List (Int × List UInt8)) : (mine2 n l).length ≤ l.length := by
  unfold mine2
  rw [List.length_map]
  exact List.length_filter_le _ _
theorem mine2_512 (n : Int) {l : List (Int × List UInt8)} (h : ∀ x ∈ l, x.2.length = 512) : ∀ m ∈ mine2 n l, m.length = 512 := by
  intro m hm
  unfold mine2 at hm
  obtain ⟨x, hx, rfl⟩ := List.mem_map.1 hm
  exact h x (List.mem_filter.1 hx).1
theorem mayOf_len (d : Dk) (n : Nat) : (mayOf d n).length ≤ d.pend.length + 1 := by
  unfold mayOf
  rw [List.length_cons]
  have := mine2_len (n : Int) d.pend
  omega
theorem mayOf_pos (d : Dk) (n : Nat) : 0 < (mayOf d n).length := by unfold mayOf; rw [List.length_cons]; omega
theorem mayOf_512 {d : Dk} (h : d.ok) (n : Nat) : ∀ m ∈ mayOf d n, m.length = 512 := by
  intro m hm
  rcases List.mem_cons.1 hm with rfl | hm
  · exact h.last _
  · exact mine2_512 _ h.pend m hm
theorem hasIn_last (n : Int) : ∀ (l : List (Int × List UInt8)) (b : List UInt8), (b :: mine2 n l).getLast? = some (hasIn n b l)
  | [], b => rfl
  | x :: r, b => by
    rw [mine2_cons]
    show _ = some (hasIn n (if x.1 = n then x.2 else b) r)
    by_cases h : x.1 = n
    · rw [if_pos h, if_pos h, List.getLast?_cons_cons]
      exact hasIn_last n r x.2
    · rw [if_neg h, if_neg h]
      exact hasIn_last n r b
/-- All of each write lasts. -/
theorem settle_all (c : Nat → Nat) (n : Int) : ∀ (l : List (Int × List UInt8)) (i : Nat) (L : Int → List UInt8), (∀ j, j < l.length → c (i + j) = 512) → (∀ x ∈ l, x.2.length = 512) → (∀ k, (L k).length = 512) → settleIn c l i L n = hasIn n (L n) l
  | [], _, _, _, _, _ => rfl
  | x :: r, i, L, hc, hl, hL => by
    have h0 := hc 0 (by simp)
    have hx := hl x (List.mem_cons_self ..)
    have e : over (x.2.take (c i)) (L x.1) = x.2 := by
      rw [Nat.add_zero] at h0
      rw [h0, List.take_of_length_le (by omega), over_all (by rw [hx, hL])]
    show settleIn c r (i + 1) (putP L x.1 (over (x.2.take (c i)) (L x.1))) n = hasIn n (if x.1 = n then x.2 else L n) r
    rw [e, settle_all c n r (i + 1) _ (fun j hj => by have := hc (j + 1) (by simp; omega); rwa [show i + (j + 1) = i + 1 + j by omega] at this) (fun y hy => hl y (List.mem_cons_of_mem _ hy)) (fun k => by unfold putP; split <;> simp [hx, hL])]
    congr 1
    unfold putP
    by_cases h : x.1 = n
    · rw [if_pos h, if_pos h.symm]
    · rw [if_neg h, if_neg (fun e => h e.symm)]
theorem over_at (a l : List UInt8) (i : Nat) : (over a l)[i]? = if i < a.length then a[i]? else l[i]? := by
  unfold over
  by_cases h : i < a.length
  · rw [if_pos h, List.getElem?_append_left h]
  · rw [if_neg h, List.getElem?_append_right (by omega), List.getElem?_drop, show a.length + (i - a.length) = i by omega]
/-- Each byte is of what lasted, or of a write. -/
theorem settle_byte (c : Nat → Nat) (n : Int) (b : Nat) : ∀ (l : List (Int × List UInt8)) (i : Nat) (L : Int → List UInt8), ∃ m ∈ L n :: mine2 n l, (settleIn c l i L n)[b]? = m[b]?
  | [], _, L => ⟨L n, List.mem_cons_self .., rfl⟩
  | x :: r, i, L => by
    obtain ⟨m, hm, e⟩ := settle_byte c n b r (i + 1) (putP L x.1 (over (x.2.take (c i)) (L x.1)))
    have e' : (settleIn c (x :: r) i L n)[b]? = m[b]? := e
    rw [mine2_cons]
    by_cases h : x.1 = n
    · rw [if_pos h]
      rcases List.mem_cons.1 hm with rfl | hm
      · have e2 : putP L x.1 (over (x.2.take (c i)) (L x.1)) n = over (x.2.take (c i)) (L n) := by unfold putP; rw [if_pos h.symm, h]
        rw [e2, over_at] at e'
        by_cases hb : b < (x.2.take (c i)).length
        · rw [if_pos hb] at e'
          refine ⟨x.2, List.mem_cons_of_mem _ (List.mem_cons_self ..), e'.trans ?_⟩
          rw [List.length_take] at hb
          rw [List.getElem?_take, if_pos (by omega)]
        · rw [if_neg hb] at e'
          exact ⟨L n, List.mem_cons_self .., e'⟩
      · exact ⟨m, List.mem_cons_of_mem _ (List.mem_cons_of_mem _ hm), e'⟩
    · rw [if_neg h]
      rcases List.mem_cons.1 hm with rfl | hm
      · have e2 : putP L x.1 (over (x.2.take (c i)) (L x.1)) n = L n := by unfold putP; rw [if_neg (fun e => h e.symm)]
        rw [e2] at e'
        exact ⟨L n, List.mem_cons_self .., e'⟩
      · exact ⟨m, List.mem_cons_of_mem _ hm, e'⟩
theorem Dk.stepped_last (d : Dk) : d.stepped.last = d.last := by unfold Dk.stepped; split <;> (try split) <;> rfl
theorem Dk.stepped_pend' (d : Dk) : d.stepped.pend = d.pend := by unfold Dk.stepped; split <;> (try split) <;> rfl
theorem mayOf_stepped (d : Dk) : mayOf d.stepped = mayOf d := by funext n; unfold mayOf; rw [d.stepped_last, d.stepped_pend']
/-- Behind a write that went. -/
theorem wr_goes {d : Dk} {n : Int} {b : List UInt8} (h : d.wrErr n b = 0) : d.wr n b = d.stepped.push n b := by
  unfold Dk.wrErr at h
  unfold Dk.wr
  by_cases h1 : d.reach n ≠ 0
  · rw [if_pos h1] at h; exact absurd h h1
  · rw [if_neg h1] at h ⊢
    by_cases h2 : b.length ≠ 512
    · rw [if_pos h2] at h; cases h
    · rw [if_neg h2] at h ⊢
      by_cases h3 : d.arm = 0
      · rw [if_pos h3] at h; cases h
      · rw [if_neg h3]
theorem wr_stays {d : Dk} {n : Int} {b : List UInt8} (h : d.wrErr n b ≠ 0) : d.wr n b = d ∨ d.wr n b = d.stepped := by
  unfold Dk.wrErr at h
  unfold Dk.wr
  by_cases h1 : d.reach n ≠ 0
  · rw [if_pos h1]; exact Or.inl rfl
  · rw [if_neg h1] at h ⊢
    by_cases h2 : b.length ≠ 512
    · rw [if_pos h2]; exact Or.inl rfl
    · rw [if_neg h2] at h ⊢
      by_cases h3 : d.arm = 0
      · rw [if_pos h3]; exact Or.inr rfl
      · rw [if_neg h3] at h; exact absurd rfl h
theorem sy_goes {d : Dk} (h : d.syErr = 0) : d.sy = d.stepped.settled (fun _ => 512) := by
  unfold Dk.syErr at h
  unfold Dk.sy
  by_cases h1 : d.down = true
  · rw [if_pos h1] at h; cases h
  · rw [if_neg h1] at h ⊢
    by_cases h3 : d.arm = 0
    · rw [if_pos h3] at h; cases h
    · rw [if_neg h3]
theorem sy_stays {d : Dk} (h : d.syErr ≠ 0) : d.sy = d ∨ d.sy = d.stepped := by
  unfold Dk.syErr at h
  unfold Dk.sy
  by_cases h1 : d.down = true
  · rw [if_pos h1]; exact Or.inl rfl
  · rw [if_neg h1] at h ⊢
    by_cases h3 : d.arm = 0
    · rw [if_pos h3]; exact Or.inr rfl
    · rw [if_neg h3] at h; exact absurd rfl h
/-- A disk of three pages behind k acts. -/
structure BytAt (d : Dk) (k : Nat) : Prop where
  pages : d.pages = 3
  len : d.pend.length ≤ k
theorem BytAt.mono {d : Dk} {k j : Nat} (h : BytAt d k) (hj : k ≤ j) : BytAt d j := ⟨h.pages, Nat.le_trans h.len hj⟩
theorem BytAt.wrGoes {d : Dk} {k : Nat} {N : Nat} {b : List UInt8} (h : BytAt d k) (e : d.wrErr (N : Int) b = 0) : BytAt (d.wr (N : Int) b) (k + 1) ∧ mayOf (d.wr (N : Int) b) = fun j => if j = N then mayOf d N ++ [b] else mayOf d j := by
  rw [wr_goes e]
  refine ⟨⟨(d.stepped_pages).trans h.pages, ?_⟩, ?_⟩
  · show (d.stepped.pend ++ [((N : Int), b)]).length ≤ k + 1
    rw [List.length_append, d.stepped_pend']
    have := h.len
    simpa using this
  · funext j
    have e1 : mayOf (d.stepped.push (N : Int) b) j = d.stepped.last (j : Int) :: mine2 (j : Int) (d.stepped.pend ++ [((N : Int), b)]) := rfl
    rw [e1, mine2_snoc, d.stepped_last, d.stepped_pend']
    by_cases hj : j = N
    · subst hj
      rw [if_pos rfl, if_pos rfl]
      rfl
    · rw [if_neg hj, if_neg (by simp; omega), List.append_nil]
      rfl
theorem BytAt.wrStays {d : Dk} {k : Nat} {n : Int} {b : List UInt8} (h : BytAt d k) (e : d.wrErr n b ≠ 0) : BytAt (d.wr n b) (k + 1) ∧ mayOf (d.wr n b) = mayOf d := by
  rcases wr_stays e with e | e
  · rw [e]; exact ⟨h.mono (by omega), rfl⟩
  · rw [e]; exact ⟨⟨(d.stepped_pages).trans h.pages, by rw [d.stepped_pend']; exact Nat.le_succ_of_le h.len⟩, mayOf_stepped d⟩
theorem BytAt.syStays {d : Dk} {k : Nat} (h : BytAt d k) (e : d.syErr ≠ 0) : BytAt d.sy (k + 1) ∧ mayOf d.sy = mayOf d := by
  rcases sy_stays e with e | e
  · rw [e]; exact ⟨h.mono (by omega), rfl⟩
  · rw [e]; exact ⟨⟨(d.stepped_pages).trans h.pages, by rw [d.stepped_pend']; exact Nat.le_succ_of_le h.len⟩, mayOf_stepped d⟩
theorem BytAt.syGoes {d : Dk} {k : Nat} (h : BytAt d k) (ok : d.ok) (e : d.syErr = 0) : BytAt d.sy (k + 1) ∧ ∀ j, ∃ b, (mayOf d j).getLast? = some b ∧ mayOf d.sy j = [b] := by
  rw [sy_goes e]
  refine ⟨⟨(d.stepped_pages).trans h.pages, Nat.zero_le _⟩, fun j => ⟨hasIn (j : Int) (d.last (j : Int)) d.pend, hasIn_last _ _ _, ?_⟩⟩
  have e1 : mayOf (d.stepped.settled (fun _ => 512)) j = [settleIn (fun _ => 512) d.stepped.pend 0 d.stepped.last (j : Int)] := rfl
  rw [e1, d.stepped_last, d.stepped_pend', settle_all _ _ _ _ _ (fun _ _ => rfl) ok.pend ok.last]
theorem BytAt.armed {d : Dk} {k : Nat} (h : BytAt d k) (n : Int) : BytAt (d.armed n) (k + 1) ∧ mayOf (d.armed n) = mayOf d := ⟨⟨h.pages, Nat.le_succ_of_le h.len⟩, rfl⟩
theorem keeps_all {m i : Nat} (h : i < m) : keeps (List.replicate m true) (-1) 0 i = 512 := by
  unfold keeps
  rw [if_neg (by omega)]
  have : (List.replicate m true).getD i false = true := by simp [h]
  rw [this, if_pos rfl]
theorem imgTo_congr {d d' : Dk} (h : ∀ n, d'.has n = d.has n) : ∀ k, imgTo d' k = imgTo d k
  | 0 => rfl
  | k + 1 => by
    show imgTo d' k ++ d'.has _ = imgTo d k ++ d.has _
    rw [imgTo_congr h k, h]
/-- With all kept and none torn it is as if they had been synced. -/
theorem mended_all {d : Dk} (ok : d.ok) {m : Nat} (h : d.pend.length ≤ m) : (d.mended (List.replicate m true) (-1) 0).img = d.img := by
  unfold Dk.img
  have hp : (d.mended (List.replicate m true) (-1) 0).pages = d.pages := rfl
  rw [hp]
  refine imgTo_congr (fun n => ?_) _
  have e : (d.mended (List.replicate m true) (-1) 0).has n = settleIn (keeps (List.replicate m true) (-1) 0) d.pend 0 d.last n := rfl
  rw [e, settle_all _ _ _ _ _ (fun j hj => by rw [Nat.zero_add]; exact keeps_all (by omega)) ok.pend ok.last]
  rfl
theorem mended_byte (d : Dk) (keep : List Bool) (torn cut : Int) (n b : Nat) : ∃ m ∈ mayOf d n, ((d.mended keep torn cut).has (n : Int))[b]? = m[b]? := settle_byte _ _ _ _ _ _

/-- A row of pages in memory, with all the blocks that it reaches. -/
def PRow (w : World) (Z : Nat → Prop) (v : Value) (L : List (List UInt8)) : Prop :=
  ∃ g off cap cur, v = .slice (some ⟨g, off, none⟩) L.length cap ∧ Z g ∧ w.heap[g]? = some (.cells cur 30 (0, 0)) ∧ L.length ≤ cap ∧ cap ≤ maxLen ∧ cur.size = off + cap ∧
    ∀ i (h : i < L.length), ∃ pb, cur[off + i]? = some (.slice (some ⟨pb, 0, none⟩) 512 512) ∧ Z pb ∧ Blk w pb (bcells L[i]) 5
theorem PRow.mono {w : World} {Z Y : Nat → Prop} {v : Value} {L : List (List UInt8)} (h : PRow w Z v L) (hy : ∀ k, Z k → Y k) : PRow w Y v L := by
  obtain ⟨g, off, cap, cur, rfl, hz, hh, h1, h2, h3, h4⟩ := h
  exact ⟨g, off, cap, cur, rfl, hy g hz, hh, h1, h2, h3, fun i hi => by obtain ⟨pb, a, b, c⟩ := h4 i hi; exact ⟨pb, a, hy pb b, c⟩⟩
theorem PRow.same {w w' : World} {Z : Nat → Prop} {v : Value} {L : List (List UInt8)} (h : PRow w Z v L) (hs : ∀ k, Z k → (v.ownBlock = some k ∨ ∃ cs, Blk w k cs 5) → w'.heap[k]? = w.heap[k]?) : PRow w' Z v L := by
  obtain ⟨g, off, cap, cur, rfl, hz, hh, h1, h2, h3, h4⟩ := h
  exact ⟨g, off, cap, cur, rfl, hz, (hs g hz (Or.inl rfl)).trans hh, h1, h2, h3, fun i hi => by obtain ⟨pb, a, b, c⟩ := h4 i hi; exact ⟨pb, a, b, c.same (hs pb b (Or.inr ⟨_, c⟩))⟩⟩
theorem PRow.kept {w w' : World} {Z : Nat → Prop} {v : Value} {L : List (List UInt8)} (h : PRow w Z v L) (hs : ∀ k, Z k → w'.heap[k]? = w.heap[k]?) : PRow w' Z v L := h.same (fun k hz _ => hs k hz)
theorem PRow.own {w : World} {Z : Nat → Prop} {v : Value} {L : List (List UInt8)} (h : PRow w Z v L) : ∃ g cur, v.ownBlock = some g ∧ Z g ∧ w.heap[g]? = some (.cells cur 30 (0, 0)) := by
  obtain ⟨g, off, cap, cur, rfl, hz, hh, _⟩ := h
  exact ⟨g, cur, rfl, hz, hh⟩
theorem infoBs : (Try.prog.info? 30).map (fun i => (i.zero, i.size, i.bytes)) = some (some (.slice none 0 0), 1, 24) := by kernel_rfl
theorem set1 (w : World) (g o : Nat) (v : Value) : w.setCells g o [v] = w.setCell ⟨g, o, none⟩ v := rfl
/-- append of one page onto a row. -/
theorem PRow.append {w : World} {Z : Nat → Prop} {v : Value} {L : List (List UInt8)} (h : PRow w Z v L) (ty : TypeId) (sb pb : Nat) (m : List UInt8) (hsrc : w.cell? ⟨sb, 0, none⟩ = some (.slice (some ⟨pb, 0, none⟩) 512 512)) (hp : Blk w pb (bcells m) 5) (hz : Z pb) (hl : L.length ≤ 1000) :
    ∃ g off cap w', (Builtin.append_ #[53, 53] ty #[v, .slice (some ⟨sb, 0, none⟩) 1 1]).run Try.prog w = .ok (.slice (some ⟨g, off, none⟩) (L.length + 1) cap) w' ∧ Chg (fun k => v.ownBlock = some k) w w' ∧
      PRow w' (fun k => Z k ∨ (w.heap.size ≤ k ∧ k < w'.heap.size)) (.slice (some ⟨g, off, none⟩) (L.length + 1) cap) (L ++ [m]) ∧ (v.ownBlock = some g ∨ w.heap.size ≤ g) := by
  obtain ⟨i0, hi, hz0, hz1, hz2⟩ := info_parts infoBs
  obtain ⟨g, off, cap, cur, rfl, hzg, hh, h1, h2, h3, h4⟩ := h
  have hu := Try.underlying53
  have hnews : ∀ j u, [Value.slice (some ⟨pb, 0, none⟩) 512 512][j]? = some u → w.cell? ((⟨sb, 0, none⟩ : Addr).add j) = some u := fun j u hu => by
    rw [Addr.add_mid]
    match j with
    | 0 => simp only [List.getElem?_cons_zero, Option.some.injEq] at hu; rw [← hu]; exact hsrc
    | j + 1 => simp at hu
  have hgl : g < w.heap.size := (Array.getElem?_eq_some_iff.1 hh).1
  by_cases hr : L.length + 1 ≤ cap
  · have hin : off + L.length < cur.size := by omega
    have hc : w.cell? ⟨g, off + L.length, none⟩ = some cur[off + L.length] := by simp [World.cell?, hh, hin]
    have hf : w.frozen? ⟨g, off + L.length, none⟩ = false := by simp [World.frozen?, hh]
    have run := run_append_room_cells (P := Try.prog) w 53 ty 30 i0 hu hi g off L.length cap ⟨sb, 0, none⟩ 1 1 [.slice (some ⟨pb, 0, none⟩) 512 512] (by rw [hz1]; rfl) hnews (by simp [Value.oneCell']) hr
      (fun j hj => by obtain rfl : j = 0 := by simpa using hj
                      rw [hz1, Nat.mul_one, Nat.add_zero, hc]; rfl)
      (fun j hj => by obtain rfl : j = 0 := by simpa using hj
                      rw [hz1, Nat.mul_one, Nat.add_zero, hf])
    rw [hz1, Nat.mul_one, set1] at run
    have hs := heap_setCell_same w g (off + L.length) cur 30 (.slice (some ⟨pb, 0, none⟩) 512 512) hh
    refine ⟨g, off, cap, _, run, (Chg.refl (fun k => (Value.slice (some ⟨g, off, none⟩) L.length cap).ownBlock = some k) w).setCell (p := ⟨g, off + L.length, none⟩) (Or.inl rfl) _, ⟨g, off, cap, _, by rw [List.length_append]; rfl, Or.inl hzg, hs, by rw [List.length_append]; exact hr, h2, by simpa using h3, fun i hi => ?_⟩, Or.inl rfl⟩
    have hne : ∀ k cs, Blk w k cs 5 → k ≠ g := fun k cs b e => by
      subst e
      have := b.symm.trans hh
      simp at this
    by_cases hi' : i < L.length
    · obtain ⟨qb, a, b, c⟩ := h4 i hi'
      refine ⟨qb, ?_, Or.inl b, ?_⟩
      · rw [Array.getElem?_setIfInBounds_ne (by omega)]; exact a
      · have e : (L ++ [m])[i] = L[i] := List.getElem_append_left hi'
        rw [e]
        exact c.same (set_block (hne qb _ c))
    · obtain rfl : i = L.length := by rw [List.length_append] at hi; simp at hi; omega
      refine ⟨pb, ?_, Or.inl hz, ?_⟩
      · rw [Array.getElem?_setIfInBounds_self_of_lt hin]
      · have e : (L ++ [m])[L.length] = m := by simp
        rw [e]
        exact hp.same (set_block (hne pb _ hp))
  · have holds : ∀ j u, ((cur.toList.drop off).take L.length)[j]? = some u → w.cell? ((⟨g, off, none⟩ : Addr).add j) = some u := fun j u hu => by
      rw [Addr.add_mid]
      rw [List.getElem?_take] at hu
      split at hu
      · rw [List.getElem?_drop, Array.getElem?_toList] at hu
        simp [World.cell?, hh, hu]
      · cases hu
    have hol : ((cur.toList.drop off).take L.length).length = L.length * 1 := by rw [List.length_take, List.length_drop, show cur.toList.length = cur.size from Array.length_toList]; omega
    obtain ⟨v', w', run, own, gr⟩ := run_append_arg_grows (P := Try.prog) w 53 ty 30 i0 (.slice none 0 0) 1 24 hu hi hz0 hz1 hz2 rfl (by decide) ⟨g, off, none⟩ L.length cap _ hol holds ⟨sb, 0, none⟩ 1 1 [.slice (some ⟨pb, 0, none⟩) 512 512] rfl hnews (by omega) (by unfold maxLen; omega) (by omega)
    rcases own.2 with ⟨_, e⟩ | ⟨g', cap', cur', rfl, hg', hh', k1, k2, k3, k4⟩
    · omega
    have hgl' : g' < w'.heap.size := (Array.getElem?_eq_some_iff.1 hh').1
    refine ⟨g', 0, cap', w', run, ⟨gr.os, gr.tape, gr.output, gr.size, fun k hk _ => gr.block k hk (by simp)⟩, ⟨g', 0, cap', cur', by rw [List.length_append]; rfl, Or.inr ⟨hg', hgl'⟩, hh', by rw [List.length_append]; exact k1, k2, by omega, fun i hi => ?_⟩, Or.inr hg'⟩
    have hi2 : i < L.length + 1 := by rw [List.length_append] at hi; simpa using hi
    have ec : cur'[0 + i]? = ((cur.toList.drop off).take L.length ++ [Value.slice (some ⟨pb, 0, none⟩) 512 512])[i]? := by
      rw [← k4, Nat.mul_one, List.getElem?_take, if_pos hi2, Array.getElem?_toList, Nat.zero_add]
    by_cases hi' : i < L.length
    · obtain ⟨qb, a, b, c⟩ := h4 i hi'
      refine ⟨qb, ?_, Or.inl b, ?_⟩
      · rw [ec, List.getElem?_append_left (by rw [hol]; omega), List.getElem?_take, if_pos hi', List.getElem?_drop, Array.getElem?_toList]
        exact a
      · have e : (L ++ [m])[i] = L[i] := List.getElem_append_left hi'
        rw [e]
        exact c.same (gr.block qb c.lt (by simp))
    · obtain rfl : i = L.length := by omega
      refine ⟨pb, ?_, Or.inl hz, ?_⟩
      · rw [ec, List.getElem?_append_right (by rw [hol]; omega), hol, Nat.mul_one, Nat.sub_self]
        rfl
      · have e : (L ++ [m])[L.length] = m := by simp
        rw [e]
        exact hp.same (gr.block pb hp.lt (by simp))
/-- The last page alone. -/
theorem PRow.last {w : World} {Z : Nat → Prop} {v : Value} {L : List (List UInt8)} (h : PRow w Z v L) (b : List UInt8) (hb : L.getLast? = some b) :
    ∃ g off cap, v = .slice (some ⟨g, off, none⟩) L.length cap ∧ L.length ≤ cap ∧ cap ≤ maxLen ∧ PRow w Z (.slice (some ⟨g, off + (L.length - 1), none⟩) 1 (cap - (L.length - 1))) [b] := by
  obtain ⟨g, off, cap, cur, rfl, hzg, hh, h1, h2, h3, h4⟩ := h
  have hp : 0 < L.length := by cases L with | nil => cases hb | cons a r => simp
  refine ⟨g, off, cap, rfl, h1, h2, g, off + (L.length - 1), cap - (L.length - 1), cur, rfl, hzg, hh, by simp; omega, by omega, by omega, fun i hi => ?_⟩
  obtain rfl : i = 0 := by simpa using hi
  obtain ⟨pb, a, c, e⟩ := h4 (L.length - 1) (by omega)
  have hbe : L[L.length - 1] = b := by
    rw [List.getLast?_eq_getElem?, List.getElem?_eq_getElem (by omega)] at hb
    exact Option.some.inj hb
  rw [hbe] at e
  exact ⟨pb, a, c, e⟩
theorem PRow.new (w : World) (Z : Nat → Prop) (m : List UInt8) (pb : Nat) (hp : Blk w pb (bcells m) 5) (hz : Z pb) (hw : Z w.heap.size) : PRow (w.alloc (.cells #[.slice (some ⟨pb, 0, none⟩) 512 512] 30)) Z (.slice (some ⟨w.heap.size, 0, none⟩) 1 1) [m] := by
  refine ⟨w.heap.size, 0, 1, _, rfl, hw, heap_alloc_new w _, Nat.le_refl _, by unfold maxLen; omega, rfl, fun i hi => ?_⟩
  obtain rfl : i = 0 := by simpa using hi
  exact ⟨pb, rfl, hz, hp.alloc _⟩
/-- The three rows. -/
structure MayAt (w : World) (Z : Nat → Prop) (mb : Nat) (vs : List Value) (c : Nat) (M : Nat → List (List UInt8)) : Prop where
  blk : Blk w mb vs 54
  len : vs.length = 3
  zm : Z mb
  row : ∀ n, n < c → ∃ v, vs[n]? = some v ∧ PRow w Z v (M n)
  ne : ∀ i j vi vj, i < c → j < c → vs[i]? = some vi → vs[j]? = some vj → i ≠ j → vi.ownBlock ≠ vj.ownBlock
theorem MayAt.mono {w : World} {Z Y : Nat → Prop} {mb : Nat} {vs : List Value} {c : Nat} {M : Nat → List (List UInt8)} (h : MayAt w Z mb vs c M) (hy : ∀ k, Z k → Y k) : MayAt w Y mb vs c M :=
  ⟨h.blk, h.len, hy _ h.zm, fun n hn => by obtain ⟨v, e, r⟩ := h.row n hn; exact ⟨v, e, r.mono hy⟩, h.ne⟩
theorem MayAt.kept {w w' : World} {Z : Nat → Prop} {mb : Nat} {vs : List Value} {c : Nat} {M : Nat → List (List UInt8)} (h : MayAt w Z mb vs c M) (hs : ∀ k, Z k → w'.heap[k]? = w.heap[k]?) : MayAt w' Z mb vs c M :=
  ⟨h.blk.same (hs _ h.zm), h.len, h.zm, fun n hn => by obtain ⟨v, e, r⟩ := h.row n hn; exact ⟨v, e, r.kept hs⟩, h.ne⟩
/-- One row is set anew: behind a step that turned that row's block alone. -/
theorem MayAt.set {w w1 : World} {Z Y : Nat → Prop} {mb : Nat} {vs : List Value} {c c' : Nat} {M : Nat → List (List UInt8)} (h : MayAt w Z mb vs c M) (N : Nat) (hN : N < 3) (hc : (c' = c ∧ N < c) ∨ (c' = c + 1 ∧ N = c)) (G : Nat → Prop) (C : Chg G w w1)
    (hG : ∀ k, G k → N < c ∧ ∃ v, vs[N]? = some v ∧ v.ownBlock = some k) (hlt : ∀ k, Z k → k < w.heap.size) (v' : Value) (L' : List (List UInt8)) (R : PRow w1 Y v' L') (hy : ∀ k, Z k → Y k) (hown : ∀ k, v'.ownBlock = some k → G k ∨ w.heap.size ≤ k) (hnew : N < c → ∀ k, v'.ownBlock = some k → w.heap.size ≤ k ∨ ∃ v, vs[N]? = some v ∧ v.ownBlock = some k) :
    MayAt (w1.setCell ⟨mb, N, none⟩ v') Y mb (vs.set N v') c' (fun j => if j = N then L' else M j) := by
  have hmb : Blk w1 mb vs 54 := h.blk.chg C (fun g => by
    obtain ⟨hn, v, e, o⟩ := hG mb g
    obtain ⟨v2, e2, r⟩ := h.row N hn
    rw [e] at e2
    cases e2
    obtain ⟨g2, cur, o2, _, hh⟩ := r.own
    rw [o] at o2
    cases o2
    have := h.blk.symm.trans hh
    simp at this)
  have hset : ∀ (v : Value) (L : List (List UInt8)), PRow w1 Y v L → PRow (w1.setCell ⟨mb, N, none⟩ v') Y v L := fun v L r => r.same (fun k _ hk => by
    refine set_block (fun e => ?_)
    subst e
    rcases hk with hk | ⟨cs, b⟩
    · obtain ⟨g2, cur, o2, _, hh⟩ := r.own
      rw [hk] at o2
      cases o2
      have := hmb.symm.trans hh
      simp at this
    · have := hmb.symm.trans b
      simp at this)
  have hrow : ∀ n, n < c → n ≠ N → ∃ v, vs[n]? = some v ∧ PRow w1 Y v (M n) := fun n hn hne => by
    obtain ⟨v, e, r⟩ := h.row n hn
    refine ⟨v, e, (r.same (fun k hz hk => C.block k (hlt k hz) (fun g => ?_))).mono hy⟩
    obtain ⟨hnc, v2, e2, o2⟩ := hG k g
    rcases hk with hk | ⟨cs, b⟩
    · exact h.ne n N v v2 hn hnc e e2 hne (hk.trans o2.symm)
    · obtain ⟨v3, e3, r3⟩ := h.row N hnc
      rw [e2] at e3
      cases e3
      obtain ⟨g2, cur, o3, _, hh⟩ := r3.own
      rw [o2] at o3
      cases o3
      have := b.symm.trans hh
      simp at this
  have hlen := h.len
  refine ⟨hmb.set v', by rw [List.length_set]; exact hlen, hy _ h.zm, fun n hn => ?_, fun i j vi vj hi hj ei ej hij => ?_⟩
  · by_cases e : n = N
    · subst e
      refine ⟨v', by rw [List.getElem?_set, if_pos rfl, if_pos (by omega)], ?_⟩
      rw [if_pos rfl]
      exact hset v' L' R
    · obtain ⟨v, e1, r⟩ := hrow n (by omega) e
      refine ⟨v, by rw [List.getElem?_set, if_neg (Ne.symm e)]; exact e1, ?_⟩
      rw [if_neg e]
      exact hset v _ r
  · have key : ∀ n vn, n < c → n ≠ N → vs[n]? = some vn → vn.ownBlock ≠ v'.ownBlock := fun n vn hn hne en eq => by
      obtain ⟨v2, e2, r2⟩ := h.row n hn
      rw [en] at e2
      cases e2
      obtain ⟨g2, cur, o2, z2, hh⟩ := r2.own
      rw [o2] at eq
      rcases hc with ⟨_, hNc⟩ | ⟨_, hNc⟩
      · rcases hnew hNc g2 eq.symm with q | ⟨v3, e3, o3⟩
        · have := hlt g2 z2; omega
        · exact h.ne n N vn v3 hn hNc en e3 hne (o2.trans o3.symm)
      · rcases hown g2 eq.symm with q | q
        · obtain ⟨hnc, _⟩ := hG g2 q
          omega
        · have := hlt g2 z2; omega
    by_cases e1 : i = N
    · subst e1
      rw [List.getElem?_set, if_pos rfl, if_pos (by omega)] at ei
      cases ei
      rw [List.getElem?_set, if_neg hij] at ej
      exact (key j vj (by omega) (Ne.symm hij) ej).symm
    · rw [List.getElem?_set, if_neg (Ne.symm e1)] at ei
      by_cases e2 : j = N
      · subst e2
        rw [List.getElem?_set, if_pos rfl, if_pos (by omega)] at ej
        cases ej
        exact key i vi (by omega) e1 ei
      · rw [List.getElem?_set, if_neg (Ne.symm e2)] at ej
        exact h.ne i j vi vj (by omega) (by omega) ei ej hij
end Go.Proofs.Ytfgcjcffplglhaa
