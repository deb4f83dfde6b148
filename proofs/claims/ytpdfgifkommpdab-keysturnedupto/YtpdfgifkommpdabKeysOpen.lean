/- How the arguments of the laws on keys read: slices of values, of bools, of bytes, with the bound of the second form. No conditions. -/
import Derived.Test.YtpdfgifkommpdabRows
import Derived.Test.YtpdfgifkommpdabValOpenAll
import Derived.Test.YtpdfgifkommpdabAppBytes
namespace Go.Proofs.Ytpdfgifkommpdab
open Go.ChangeShapes Go.WideShapes Go.ChangeAt Go.RowKit Go.Deep
set_option linter.unusedVariables false

theorem cellsOfByte : Try.prog.cellsOf 5 = 1 := by kernel_rfl
theorem bytesOfByte : Try.prog.bytesOf 5 = 1 := by kernel_rfl

theorem bulk_at {H : Type} : ∀ {ds : List (DataW H)} {j : Nat} {d : DataW H}, ds[j]? = some d → Rows.uptoBulk d ≤ Rows.uptoBulkAll ds
  | [], j, d, h => by simp at h
  | x :: ds, 0, d, h => by
    simp at h
    subst h
    simp only [Rows.uptoBulkAll]
    omega
  | x :: ds, j + 1, d, h => by
    have := bulk_at (ds := ds) (j := j) (d := d) (by simpa using h)
    simp only [Rows.uptoBulkAll]
    omega
theorem small_at {H : Type} {ds : List (DataW H)} (hk : Rows.uptoSmall H ds = true) {j : Nat} {d : DataW H} (h : ds[j]? = some d) : Rows.uptoBulk d ≤ 1048576 :=
  Nat.le_trans (bulk_at h) (of_decide_eq_true hk)
theorem bulk_pos {H : Type} (d : DataW H) : 1 ≤ Rows.uptoBulk d := by
  cases d with
  | lit l => cases l <;> simp [Rows.uptoBulk]
  | _ => simp [Rows.uptoBulk]
theorem bulk_len {H : Type} : ∀ (l : List (DataW H)), l.length ≤ Rows.uptoBulkAll l
  | [] => Nat.zero_le _
  | d :: l => by
    have := bulk_pos d
    have := bulk_len l
    simp only [Rows.uptoBulkAll, List.length_cons]
    omega
theorem bulk_vals {H : Type} : ∀ (l : List Val), bulkR l ≤ Rows.uptoBulkAll (l.map (datV (H := H)))
  | [] => Nat.zero_le _
  | a :: l => by
    have := bulk_vals (H := H) l
    have h2 : a.s.data.toList.length = a.s.size := by simp
    simp only [List.map_cons, Rows.uptoBulkAll, bulkR, datV, Rows.uptoBulk]
    omega

/-- A slice of values, whose data are the values', one by one. -/
theorem open_vals_each {H : Type} {enc : TypeId × Value → H} {W : World} {r : Reach} {b0 : Nat} {v : Value} {d : DataW H} {p : List MemPlace} (hv : Value.okWide Try.prog W r b0 26 v)
    (h : DataW.Trod enc Try.prog W 0 (fun _ => true) true 26 v d p) :
    ∃ (pa : Option Addr) (cap : Nat) (vs : List Val), v = .slice pa vs.length cap ∧ Row W pa vs ∧ (pa = none → vs.length = 0 ∧ cap = 0) ∧ (∀ x ∈ vs, -9223372036854775808 ≤ x.n ∧ x.n ≤ 9223372036854775807) ∧ vs.length ≤ maxLen ∧
      ((d = .nil ∧ vs = []) ∨ ∃ sp, d = .slice (vs.map datV) sp) := by
  obtain ⟨a0, len, cap, rfl⟩ := okWide_slice Try.underlying26 hv
  obtain ⟨fuel, hf⟩ := h
  rcases open_slice Try.underlying26 hf with ⟨hcs, hx⟩ | ⟨a, l, c, m, n, D, Pl, hcs, _, hl, hm, hmm, hx, hel⟩
  · simp [Value.cells] at hcs
    obtain ⟨rfl, rfl, rfl⟩ := hcs
    exact ⟨none, 0, [], rfl, Or.inl rfl, fun _ => ⟨rfl, rfl⟩, by simp, Nat.zero_le _, Or.inl ⟨(Prod.mk.inj hx).1, rfl⟩⟩
  · simp [Value.cells] at hcs
    obtain ⟨rfl, rfl, rfl⟩ := hcs
    have hlm : len ≤ m := by simp at hmm; omega
    obtain ⟨f, hF⟩ := choose_val (n := len) (p := fun i x => W.cell? (a.add (i * 3)) = some (.int .i64 x.k) ∧ W.cell? ((a.add (i * 3)).add 1) = some (.int .i64 x.n) ∧ W.cell? ((a.add (i * 3)).add 2) = some (.string x.s) ∧ D i = datV x ∧ -9223372036854775808 ≤ x.n ∧ x.n ≤ 9223372036854775807) (fun i hi => by
      obtain ⟨cs', hc, ht⟩ := hel i (by omega)
      rw [cellsOfV] at hc
      obtain ⟨x, rfl, hd, hn⟩ := trod_val_all ht
      obtain ⟨_, _, hcell⟩ := World.cells?_some hc
      exact ⟨x, by simpa [Addr.add] using hcell 0 (by omega), hcell 1 (by omega), hcell 2 (by omega), hd, hn⟩)
    have hlen : ((List.range len).map f).length = len := by simp
    have hdd : (List.range len).map D = ((List.range len).map f).map datV := by
      rw [List.map_map]
      exact List.map_congr_left (fun i hi => (hF i (List.mem_range.1 hi)).2.2.2.1)
    rw [hdd] at hx
    refine ⟨some a, cap, (List.range len).map f, by rw [hlen], ?_, by simp, ?_, by rw [hlen]; omega, Or.inr ⟨_, (Prod.mk.inj hx).1⟩⟩
    · by_cases h0 : len = 0
      · subst h0; exact Or.inl rfl
      · right
        obtain ⟨b, off, spot⟩ := a
        have hc := (hF 0 (by omega)).1
        have hspot : spot = none := by simpa [Addr.add] using World.cell?_spot hc
        subst hspot
        refine ⟨b, off, rfl, fun i hi => ?_⟩
        rw [hlen] at hi
        obtain ⟨g0, g1, g2, _⟩ := hF i hi
        simp only [add_plain, List.getElem_map, List.getElem_range] at *
        exact ⟨g0, g1, g2⟩
    · intro x hx'
      obtain ⟨i, hi, rfl⟩ := List.mem_map.1 hx'
      exact (hF i (List.mem_range.1 hi)).2.2.2.2

theorem small_vals {H : Type} {ds : List (DataW H)} (hk : Rows.uptoSmall H ds = true) {j : Nat} {vs : List Val} {d : DataW H} (h : ds[j]? = some d) (hd : (d = .nil ∧ vs = []) ∨ ∃ sp, d = .slice (vs.map datV) sp) : bulkR vs ≤ 1048576 := by
  have := small_at hk h
  rcases hd with ⟨_, rfl⟩ | ⟨sp, rfl⟩
  · exact Nat.zero_le _
  · have h2 := bulk_vals (H := H) vs
    simp only [Rows.uptoBulk] at this
    omega
theorem small_len {H : Type} {ds : List (DataW H)} (hk : Rows.uptoSmall H ds = true) {j n : Nat} {d : DataW H} (h : ds[j]? = some d) (hd : (d = .nil ∧ n = 0) ∨ ∃ el sp, d = .slice el sp ∧ el.length = n) : n ≤ 1048576 := by
  have := small_at hk h
  rcases hd with ⟨_, rfl⟩ | ⟨el, sp, rfl, rfl⟩
  · exact Nat.zero_le _
  · have h2 := bulk_len el
    simp only [Rows.uptoBulk] at this
    omega

theorem small_one {H : Type} {ds : List (DataW H)} (hk : Rows.uptoSmall H ds = true) {j : Nat} {k n : Int} {s : ByteArray} (h : ds[j]? = some (.agg [.lit (.int .i64 k), .lit (.int .i64 n), .lit (.string s.data.toList)])) : s.size ≤ 1048576 := by
  have := small_at hk h
  simp only [Rows.uptoBulk, Rows.uptoBulkAll] at this
  have h2 : s.data.toList.length = s.size := by simp
  omega

theorem open_bytes {H : Type} {enc : TypeId × Value → H} {W : World} {r : Reach} {b0 : Nat} {v : Value} {d : DataW H} {p : List MemPlace} (hv : Value.okWide Try.prog W r b0 27 v)
    (h : DataW.Trod enc Try.prog W 0 (fun _ => true) true 27 v d p) :
    ∃ (pa : Option Addr) (cap : Nat) (bs : List UInt8), v = .slice pa bs.length cap ∧ Byts W pa bs ∧ (pa = none → bs.length = 0 ∧ cap = 0) ∧ bs.length ≤ maxLen ∧ bs.length ≤ cap ∧
      ((d = .nil ∧ bs.length = 0) ∨ ∃ el sp, d = .slice el sp ∧ el.length = bs.length) := by
  obtain ⟨a0, len, cap, rfl⟩ := okWide_slice Try.underlying27 hv
  obtain ⟨fuel, hf⟩ := h
  rcases open_slice1 Try.underlying27 cellsOfByte hf with ⟨hcs, hx⟩ | ⟨a, l, c, m, n, V, D, Pl, hcs, _, hl, hm, hmm, hx, hel⟩
  · simp [Value.cells] at hcs
    obtain ⟨rfl, rfl, rfl⟩ := hcs
    exact ⟨none, 0, [], rfl, Or.inl rfl, fun _ => ⟨rfl, rfl⟩, Nat.zero_le _, Nat.zero_le _, Or.inl ⟨(Prod.mk.inj hx).1, rfl⟩⟩
  · simp [Value.cells] at hcs
    obtain ⟨rfl, rfl, rfl⟩ := hcs
    have hlm : len ≤ m := by simp at hmm; omega
    obtain ⟨f, hF⟩ := choose_lt (n := len) (p := fun i (x : UInt8) => W.cell? (a.add i) = some (.int .u8 (x.toNat : Int))) (fun i hi => by
      obtain ⟨hc, ht⟩ := hel i (by omega)
      obtain ⟨x, e, _, hw⟩ := DataW.trod_int Try.underlying5 ht
      simp only [List.cons.injEq, and_true] at e
      rw [e] at hc
      have hb : 0 ≤ x ∧ x ≤ 255 := by simpa [Lit.wf, IntKind.min, IntKind.max, IntKind.signed, IntKind.bits] using hw
      refine ⟨UInt8.ofNat x.toNat, ?_⟩
      rw [hc]
      congr 2
      have : (UInt8.ofNat x.toNat).toNat = x.toNat % 256 := by simp
      rw [this]
      omega)
    have hlen : ((List.range len).map f).length = len := by simp
    refine ⟨some a, cap, (List.range len).map f, by rw [hlen], ?_, by simp, by rw [hlen]; omega, by rw [hlen]; omega, Or.inr ⟨_, _, (Prod.mk.inj hx).1, by simp⟩⟩
    by_cases h0 : len = 0
    · subst h0; exact Or.inl rfl
    · right
      obtain ⟨b, off, spot⟩ := a
      have hc := hF 0 (by omega)
      have hspot : spot = none := by simpa [Addr.add] using World.cell?_spot hc
      subst hspot
      refine ⟨b, off, rfl, fun i hi => ?_⟩
      rw [hlen] at hi
      have g0 := hF i hi
      simp only [add_plain, List.getElem_map, List.getElem_range] at *
      exact g0
end Go.Proofs.Ytpdfgifkommpdab
