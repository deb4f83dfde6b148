/- Both sides at once: a pager of the project and one of the document, over two disks that are the same. Condition: fewer than a million writes are pending. What both.opens does: the project's Open and the document's answer the same. Condition: fewer than a million writes are pending. What both.act does where it commits, reads, arms, or has no pager. Condition: fewer than 900000 writes are pending, fewer than a thousand acts were done. What both.act does where it reads, or arms. Condition: fewer than 900000 writes are pending, fewer than a thousand acts were done. What both.act does where all is cloned, or a byte is turned. Condition: fewer than 900000 writes are pending, fewer than a thousand acts were done. What both.spoil does, and both.act where it calls it. Condition: fewer than 900000 writes are pending. What both.act does where it turns a byte, and where the power goes off and on. Condition: fewer than 900000 writes are pending; the bools of the act lie within the reach. -/
import Derived.Test.YtnecigbncggogaaPgRefH
import Derived.Test.YtnecigbncggogaaPgRW
import Derived.Test.YtnecigbncggogaaDkTwo
import Derived.Deep.RegionHeldLaw
namespace Go.Proofs.Ytnecigbncggogaa
open Go.RowKit
set_option linter.unusedVariables false
set_option maxRecDepth 20000
variable {s : Nat} {w0 w : World} {db rb : Nat} {d r : Dk} {Z : Nat → Prop}

theorem PD.kept {Y F : Nat → Prop} {w w' : World} {d : Dk} (h : PD w db F d) (K : Kept Y w w') (hY : ∀ k, F k → Y k) : PD w' db F d := by
  obtain ⟨lb, nb, pv, P, hF⟩ := h
  exact ⟨lb, nb, pv, P.same (fun k hk => K.2 k (hY k (hF k hk))), hF⟩
theorem RD.kept {Y F : Nat → Prop} {w w' : World} {d : Dk} (h : RD w rb F d) (K : Kept Y w w') (hY : ∀ k, F k → Y k) : RD w' rb F d := by
  obtain ⟨lb, pv, rp, P, hF⟩ := h
  exact ⟨lb, pv, rp, P.same (fun k hk => K.2 k (hY k (hF k hk))), hF⟩
/-- The project's side alone: the document's blocks are protected besides. -/
theorem T2.viaL (h : T2 s w0 w db rb d r Z) : ∃ Z' : Nat → Prop, DW s w0 w db d Z' ∧ (∀ k, Z k → Z' k) ∧
    ∀ (w' : World) (d' : Dk) (X : Nat → Prop), (∀ k, X k → Z k) → DW s w0 w' db d' Z' → Kept (fun j => old s Z' j ∧ ¬ X j) w w' → T2 s w0 w' db rb d' r Z := by
  obtain ⟨F, G, P, R, dis, hF, hG⟩ := h.ex
  refine ⟨fun k => Z k ∨ G k, ⟨h.bel, h.size, fun k hk => ?_, P.mono (fun k _ f => ⟨(hF k f).1, fun z => ?_⟩)⟩, fun k hk => Or.inl hk, fun w' d' X hX D K => ?_⟩
  · rcases hk with hk | hk
    · exact h.lt k hk
    · exact (hG k hk).2.1
  · rcases z with z | z
    · exact (hF k f).2.2 z
    · exact dis k f z
  · have hs := K.1
    refine ⟨D.bel, D.size, fun k hk => D.lt k (Or.inl hk), fun k => (s ≤ k ∧ ¬ (Z k ∨ G k)) ∧ k < w'.heap.size, G, D.pd.mono (fun k hk f => ⟨f, hk⟩), ?_, fun k f g => f.1.2 (Or.inr g), fun k f => ⟨f.1.1, f.2, fun z => f.1.2 (Or.inl z)⟩, fun k g => ⟨(hG k g).1, Nat.lt_of_lt_of_le (hG k g).2.1 hs, (hG k g).2.2⟩⟩
    exact R.kept K (fun k g => ⟨Or.inr (Or.inr g), fun x => (hG k g).2.2 (hX k x)⟩)
/-- .. the document's side alone. -/
theorem T2.viaR (h : T2 s w0 w db rb d r Z) : ∃ Z' : Nat → Prop, RW s w0 w rb r Z' ∧ (∀ k, Z k → Z' k) ∧
    ∀ (w' : World) (r' : Dk) (X : Nat → Prop), (∀ k, X k → Z k) → RW s w0 w' rb r' Z' → Kept (fun j => old s Z' j ∧ ¬ X j) w w' → T2 s w0 w' db rb d r' Z := by
  obtain ⟨F, G, P, R, dis, hF, hG⟩ := h.ex
  refine ⟨fun k => Z k ∨ F k, ⟨h.bel, h.size, fun k hk => ?_, R.mono (fun k _ f => ⟨(hG k f).1, fun z => ?_⟩)⟩, fun k hk => Or.inl hk, fun w' d' X hX D K => ?_⟩
  · rcases hk with hk | hk
    · exact h.lt k hk
    · exact (hF k hk).2.1
  · rcases z with z | z
    · exact (hG k f).2.2 z
    · exact dis k z f
  · have hs := K.1
    refine ⟨D.bel, D.size, fun k hk => D.lt k (Or.inl hk), F, fun k => (s ≤ k ∧ ¬ (Z k ∨ F k)) ∧ k < w'.heap.size, ?_, D.rd.mono (fun k hk f => ⟨f, hk⟩), fun k f g => g.1.2 (Or.inr f), fun k g => ⟨(hF k g).1, Nat.lt_of_lt_of_le (hF k g).2.1 hs, (hF k g).2.2⟩, fun k f => ⟨f.1.1, f.2, fun z => f.1.2 (Or.inl z)⟩⟩
    exact P.kept K (fun k g => ⟨Or.inr (Or.inr g), fun x => (hF k g).2.2 (hX k x)⟩)
theorem keptZ {Z' X : Nat → Prop} {w w' : World} (hZ : ∀ k, Z k → Z' k) (K : Kept (fun j => old s Z' j ∧ ¬ X j) w w') : Kept (fun j => old s Z j ∧ ¬ X j) w w' := K.mono (fun j o => ⟨o.1.imp id (hZ j), o.2⟩)
/-! ### The calls of the pagers -/
theorem T2.commitL (pb : Nat) (n : Int) (k : Pk) (h : T2 s w0 w db rb d r Z) (P : Pag w pb db k) (hz : Z pb) (hs : s ≤ pb) (hk : k.gen < 9223372036854775800) (hp : 3 ≤ d.pages) (hm : d.pend.length < 999990) :
    Calls Try.prog 26 #[.pointer (some ⟨pb, 0, none⟩), .int .i64 n] w fun e w' => e = .returned (.int .i64 (k.cmErr d n)) ∧ T2 s w0 w' db rb (k.cmDk d n) r Z ∧ Pag w' pb db (k.cm d n) ∧ Kept (fun j => old s Z j ∧ j ≠ pb) w w' := by
  obtain ⟨Z', D, hZ, f⟩ := h.viaL
  refine (D.commit pb n k P (hZ _ hz) hs hk hp hm).mono ?_
  rintro e w' ⟨he, D', P', K⟩
  exact ⟨he, f w' _ (· = pb) (fun k e => by rw [e]; exact hz) D' K, P', keptZ (X := (· = pb)) hZ K⟩
theorem T2.commitR (qb : Nat) (n : Int) (k : Pk) (h : T2 s w0 w db rb d r Z) (P : Rag w qb rb k) (hz : Z qb) (hs : s ≤ qb) (hk : k.gen < 9223372036854775800) (hp : 3 ≤ r.pages) (hm : r.pend.length < 999990) :
    Calls Try.prog 52 #[.pointer (some ⟨qb, 0, none⟩), .int .i64 n] w fun e w' => e = .returned (.int .i64 (k.cmErr r n)) ∧ T2 s w0 w' db rb d (k.cmDk r n) Z ∧ Rag w' qb rb (k.cm r n) ∧ Kept (fun j => old s Z j ∧ j ≠ qb) w w' := by
  obtain ⟨Z', D, hZ, f⟩ := h.viaR
  refine (D.commit qb n k P (hZ _ hz) hs hk hp hm).mono ?_
  rintro e w' ⟨he, D', P', K⟩
  exact ⟨he, f w' _ (· = qb) (fun k e => by rw [e]; exact hz) D' K, P', keptZ (X := (· = qb)) hZ K⟩
theorem kept_none {Y : Nat → Prop} {w w' : World} (K : Kept Y w w') : Kept (fun j => Y j ∧ ¬ False) w w' := K.mono (fun j o => o.1)
theorem T2.pwriteL (pb : Nat) (n : Int) (sp : Option Addr) (c : Nat) (b : List UInt8) (k : Pk) (h : T2 s w0 w db rb d r Z) (P : Pag w pb db k) (hz : Z pb) (hy : Byts w sp b) (hm : d.pend.length < 1000000) :
    Calls Try.prog 25 #[.pointer (some ⟨pb, 0, none⟩), .int .i64 n, .slice sp b.length c] w fun e w' => e = .returned (.int .i64 (d.pwErr n b)) ∧ T2 s w0 w' db rb (d.pw n b) r Z ∧ Kept (old s Z) w w' := by
  obtain ⟨Z', D, hZ, f⟩ := h.viaL
  refine (D.pwrite pb n sp c b k P (hZ _ hz) hy hm).mono ?_
  rintro e w' ⟨he, D', K⟩
  exact ⟨he, f w' _ (fun _ => False) (fun k e => e.elim) D' (kept_none K), K.mono (fun j o => o.imp id (hZ j))⟩
theorem T2.pwriteR (qb : Nat) (n : Int) (sp : Option Addr) (c : Nat) (b : List UInt8) (k : Pk) (h : T2 s w0 w db rb d r Z) (P : Rag w qb rb k) (hz : Z qb) (hy : Byts w sp b) (hm : r.pend.length < 1000000) :
    Calls Try.prog 51 #[.pointer (some ⟨qb, 0, none⟩), .int .i64 n, .slice sp b.length c] w fun e w' => e = .returned (.int .i64 (r.pwErr n b)) ∧ T2 s w0 w' db rb d (r.pw n b) Z ∧ Kept (old s Z) w w' := by
  obtain ⟨Z', D, hZ, f⟩ := h.viaR
  refine (D.pwrite qb n sp c b k P (hZ _ hz) hy hm).mono ?_
  rintro e w' ⟨he, D', K⟩
  exact ⟨he, f w' _ (fun _ => False) (fun k e => e.elim) D' (kept_none K), K.mono (fun j o => o.imp id (hZ j))⟩
theorem T2.formatL (h : T2 s w0 w db rb d r Z) (hm : d.pend.length < 999990) :
    Calls Try.prog 14 #[.pointer (some ⟨db, 0, none⟩)] w fun e w' => e = .returned (.int .i64 d.fmtErr) ∧ T2 s w0 w' db rb d.fmt r Z ∧ Kept (old s Z) w w' := by
  obtain ⟨Z', D, hZ, f⟩ := h.viaL
  refine (D.format hm).mono ?_
  rintro e w' ⟨he, D', K⟩
  exact ⟨he, f w' _ (fun _ => False) (fun k e => e.elim) D' (kept_none K), K.mono (fun j o => o.imp id (hZ j))⟩
theorem T2.formatR (h : T2 s w0 w db rb d r Z) (hm : r.pend.length < 999990) :
    Calls Try.prog 15 #[.pointer (some ⟨rb, 0, none⟩)] w fun e w' => e = .returned (.int .i64 r.fmtErr) ∧ T2 s w0 w' db rb d r.fmt Z ∧ Kept (old s Z) w w' := by
  obtain ⟨Z', D, hZ, f⟩ := h.viaR
  refine (D.format hm).mono ?_
  rintro e w' ⟨he, D', K⟩
  exact ⟨he, f w' _ (fun _ => False) (fun k e => e.elim) D' (kept_none K), K.mono (fun j o => o.imp id (hZ j))⟩
theorem T2.openL (h : T2 s w0 w db rb d r Z) :
    Calls Try.prog 29 #[.pointer (some ⟨db, 0, none⟩)] w fun e w' => Below w.heap.size w w' ∧ (d.openErr ≠ 0 → e = .returned (.tuple #[.pointer none, .int .i64 d.openErr])) ∧ (d.openErr = 0 → ∃ pb x, d.newestHead = some x ∧ w.heap.size ≤ pb ∧ e = .returned (.tuple #[.pointer (some ⟨pb, 0, none⟩), .int .i64 0]) ∧ Pag w' pb db ⟨x.1, x.2, false⟩) := by
  obtain ⟨Z', D, hZ, f⟩ := h.viaL
  exact D.open_
theorem T2.openR (h : T2 s w0 w db rb d r Z) (hm : r.pend.length < 1000000) :
    Calls Try.prog 35 #[.pointer (some ⟨rb, 0, none⟩)] w fun e w' => Below w.heap.size w w' ∧ (r.openErr ≠ 0 → e = .returned (.tuple #[.pointer none, .int .i64 r.openErr])) ∧ (r.openErr = 0 → ∃ qb x, r.newestHead = some x ∧ w.heap.size ≤ qb ∧ e = .returned (.tuple #[.pointer (some ⟨qb, 0, none⟩), .int .i64 0]) ∧ Rag w' qb rb ⟨x.1, x.2, false⟩) := by
  obtain ⟨Z', D, hZ, f⟩ := h.viaR
  exact D.open_ hm
theorem T2.preadL (pb : Nat) (n : Int) (k : Pk) (h : T2 s w0 w db rb d r Z) (P : Pag w pb db k) :
    Calls Try.prog 30 #[.pointer (some ⟨pb, 0, none⟩), .int .i64 n] w fun e w' => Below w.heap.size w w' ∧ (d.rdErr n ≠ 0 → e = .returned (.tuple #[.slice none 0 0, .int .i64 (d.rdErr n)])) ∧ (d.rdErr n = 0 → ∃ g, w.heap.size ≤ g ∧ e = .returned (.tuple #[.slice (some ⟨g, 0, none⟩) 508 508, .int .i64 0]) ∧ Byts w' (some ⟨g, 0, none⟩) ((d.has n).take 508)) := by
  obtain ⟨Z', D, hZ, f⟩ := h.viaL
  exact D.pread pb n k P
theorem T2.preadR (qb : Nat) (n : Int) (k : Pk) (h : T2 s w0 w db rb d r Z) (P : Rag w qb rb k) (hm : r.pend.length < 1000000) :
    Calls Try.prog 36 #[.pointer (some ⟨qb, 0, none⟩), .int .i64 n] w fun e w' => Below w.heap.size w w' ∧ (r.rdErr n ≠ 0 → e = .returned (.tuple #[.slice none 0 0, .int .i64 (r.rdErr n)])) ∧ (r.rdErr n = 0 → ∃ g c, e = .returned (.tuple #[.slice (some ⟨g, 0, none⟩) 508 c, .int .i64 0]) ∧ Byts w' (some ⟨g, 0, none⟩) ((r.has n).take 508)) := by
  obtain ⟨Z', D, hZ, f⟩ := h.viaR
  exact D.pread qb n k P hm
theorem T2.ppagesL (pb : Nat) (k : Pk) (h : T2 s w0 w db rb d r Z) (P : Pag w pb db k) :
    Calls Try.prog 21 #[.pointer (some ⟨pb, 0, none⟩)] w fun e w' => e = .returned (.int .i64 (d.pages : Int)) ∧ w' = w := by
  obtain ⟨Z', D, hZ, f⟩ := h.viaL
  exact ppages_any pb k D P
/-- A head that is read is of no generation above 2^62. -/
theorem newest_gen {d : Dk} {x : Nat × Nat} (h : d.newestHead = some x) : x.1 ≤ 4611686018427387904 := by
  have key : ∀ (b : List UInt8) (n pages : Nat) (y : Nat × Nat), readHead b n pages = some y → y.1 ≤ 4611686018427387904 := by
    intro b n pages y hy
    unfold readHead at hy
    split at hy
    · rename_i hi
      cases hy
      simp only [isHead, Bool.and_eq_true, decide_eq_true_eq] at hi
      omega
    · cases hy
  unfold Dk.newestHead at h
  cases h0 : readHead (d.has 0) 0 d.pages with
  | none =>
    cases h1 : readHead (d.has 1) 1 d.pages with
    | none => rw [h0, h1] at h; cases h
    | some b =>
      rw [h0, h1] at h
      cases h
      exact key _ _ _ _ h1
  | some a =>
    cases h1 : readHead (d.has 1) 1 d.pages with
    | none =>
      rw [h0, h1] at h
      cases h
      exact key _ _ _ _ h0
    | some b =>
      rw [h0, h1] at h
      simp only [newer] at h
      split at h
      · cases h; exact key _ _ _ _ h1
      · cases h; exact key _ _ _ _ h0
end Go.Proofs.Ytnecigbncggogaa
namespace Go.Proofs.Ytnecigbncggogaa
open Go.RowKit
set_option linter.unusedVariables false
set_option maxRecDepth 20000
variable {s : Nat} {w0 w : World} {db rb : Nat} {d r : Dk} {Z : Nat → Prop}

theorem T2.set (h : T2 s w0 w db rb d r Z) {g i : Nat} (hz : Z g) (hs : s ≤ g) (v : Value) : T2 s w0 (w.setCell ⟨g, i, none⟩ v) db rb d r Z := h.turn hz hs (fun F hF => chg_set w g i v hF)
/-- The cells of a 'both'. -/
def xcells (db rb : Nat) (pv qv : Value) : List Value := [.pointer (some ⟨db, 0, none⟩), pv, .pointer (some ⟨rb, 0, none⟩), qv]
/-- Both pagers: none, or one on each side, which are the same. -/
def Two (s : Nat) (Z : Nat → Prop) (w : World) (db rb xb : Nat) (d : Dk) (c : Nat) (o : Option Pk) (pv qv : Value) : Prop :=
  match o with
  | none => pv = .pointer none ∧ qv = .pointer none
  | some k => ∃ pb qb, pv = .pointer (some ⟨pb, 0, none⟩) ∧ qv = .pointer (some ⟨qb, 0, none⟩) ∧ Pag w pb db k ∧ Rag w qb rb k ∧ (Z pb ∧ s ≤ pb ∧ pb ≠ xb) ∧ (Z qb ∧ s ≤ qb ∧ qb ≠ xb) ∧ pb ≠ qb ∧ k.gen ≤ 4611686018427387904 + c ∧ 3 ≤ d.pages
/-- Both sides in memory, behind c acts. -/
def BW (s : Nat) (w0 w : World) (xb : Nat) (d : Dk) (c : Nat) : Prop :=
  ∃ db rb pv qv o Z, T2 s w0 w db rb d d Z ∧ Blk w xb (xcells db rb pv qv) 39 ∧ Z xb ∧ s ≤ xb ∧ Two s Z w db rb xb d c o pv qv
theorem Blk.far {w : World} {g x i : Nat} {cs : List Value} {t : TypeId} (h : Blk w g cs t) (hn : g ≠ x) (v : Value) : Blk (w.setCell ⟨x, i, none⟩ v) g cs t := h.same (set_block hn)
theorem open_pages {d : Dk} (h : d.openErr = 0) : 3 ≤ d.pages := by
  unfold Dk.openErr at h
  by_cases h1 : d.pages < 3
  · rw [if_pos h1] at h; cases h
  · omega
theorem newest_there {d : Dk} (h : d.openErr = 0) : ∃ x, d.newestHead = some x := by
  cases hn : d.newestHead with
  | some x => exact ⟨x, rfl⟩
  | none =>
    exfalso
    unfold Dk.openErr at h
    rw [hn] at h
    by_cases h1 : d.pages < 3
    · rw [if_pos h1] at h; cases h
    · rw [if_neg h1] at h
      cases h2 : d.down
      · rw [h2, if_neg (by decide), if_pos rfl] at h; cases h
      · rw [h2, if_pos rfl] at h; cases h
set_option maxHeartbeats 4000000 in
theorem opens_any (xb : Nat) (pv qv : Value) (h : T2 s w0 w db rb d d Z) (X : Blk w xb (xcells db rb pv qv) 39) (hz : Z xb) (hs : s ≤ xb) (hm : d.pend.length < 1000000) :
    Calls Try.prog 13 #[.pointer (some ⟨xb, 0, none⟩)] w fun e w' => e = .returned (.bool true) ∧ BW s w0 w' xb d 0 := by
  have HH := hid h
  have HX := hid X
  have HZ := hid hz
  have HS := hid hs
  have HXl := hid (h.lt xb hz)
  have x0 := X.cell 0
  have hM := hid hm
  have HN1 : Hid (xb < w.heap.size) := h.lt xb hz
  by_cases ho : d.openErr = 0
  · obtain ⟨x, hxn⟩ := newest_there ho
    have C1 := h.openL
    have HC1 : Hid (Calls Try.prog 29 #[.pointer (some ⟨db, 0, none⟩)] w fun e w' => ∃ pb, e = .returned (.tuple #[.pointer (some ⟨pb, 0, none⟩), .int .i64 0]) ∧ Pag w' pb db ⟨x.1, x.2, false⟩ ∧ Below w.heap.size w w' ∧ w.heap.size ≤ pb) := by
      refine C1.mono ?_
      rintro e w' ⟨B, _, h2⟩
      obtain ⟨pb, y, hy, hle, he, P⟩ := h2 ho
      rw [hxn] at hy
      cases hy
      exact ⟨pb, he, P, B, hle⟩
    have HC2 : Hid (∀ (w5 : World) (Y : Nat → Prop), T2 s w0 w5 db rb d d Y → Calls Try.prog 35 #[.pointer (some ⟨rb, 0, none⟩)] w5 fun e w' => ∃ qb, e = .returned (.tuple #[.pointer (some ⟨qb, 0, none⟩), .int .i64 0]) ∧ Rag w' qb rb ⟨x.1, x.2, false⟩ ∧ Below w5.heap.size w5 w' ∧ w5.heap.size ≤ qb) := fun w5 Y h5 => by
      refine (h5.openR hM.out).mono ?_
      rintro e w' ⟨B, _, h2⟩
      obtain ⟨qb, y, hy, hle, he, P⟩ := h2 ho
      rw [hxn] at hy
      cases hy
      exact ⟨qb, he, P, B, hle⟩
    have HGn := hid (newest_gen hxn)
    have HPg := hid (open_pages ho)
    obtain ⟨gx, rx⟩ := x
    clear C1 h X hz hs hm ho hxn
    unfold xcells at *
    go_enter Try.func13, Try.ntmps13
    go_wp2_with (first
      | (go_at_call 29; go_loud (with_reducible refine HC1.out.mono ?_); rintro e w3 ⟨pb, rfl, P3, B3, L3⟩; have HP3 := hid P3; have HB3 := hid B3; have HL3 := hid L3; have HT3 := hid (HH.out.add B3); have HX3 := hid (HX.out.below B3 HX.out.lt); have x30 := HX3.out.cell 2; clear P3 B3 L3)
      | (go_at_call 35; go_loud (with_reducible refine (HC2.out _ _ HT3.out).mono ?_); rintro e w4 ⟨qb, rfl, Q4, B4, L4⟩; have HQ4 := hid Q4; have HL4 := hid L4; have HT4 := hid (HT3.out.add B4); have HP4 := hid (HP3.out.below B4); have HX4 := hid (HX3.out.below B4 HX3.out.lt); have x41 := HX4.out.cell 1; have x43 := HX4.out.cell 3; have x4f := fun i => HX4.out.frozen i; clear Q4 B4)
      | fail)
    go_ret
    have l3 : w.heap.size ≤ pb := HL3.out
    have l4 : w3.heap.size ≤ qb := HL4.out
    have p3 : pb < w3.heap.size := HP3.out.lt
    have q4 : qb < w4.heap.size := HQ4.out.lt
    have n1 : xb < w.heap.size := HN1.out
    have s1 : w.heap.size ≤ w3.heap.size := HB3.out.size
    have sw : s ≤ w.heap.size := HH.out.size
    refine ⟨rfl, db, rb, _, _, some ⟨gx, rx, false⟩, _, (HT4.out.set (g := xb) (Or.inl (Or.inl HZ.out)) HS.out _).set (g := xb) (Or.inl (Or.inl HZ.out)) HS.out _, Blk.set (i := 3) (Blk.set (i := 1) HX4.out _) _, Or.inl (Or.inl HZ.out), HS.out, ?_⟩
    exact ⟨pb, qb, rfl, rfl, (HP4.out.far (by omega) _).far (by omega) _, (HQ4.out.far (by omega) _).far (by omega) _, ⟨Or.inl (Or.inr ⟨l3, p3⟩), by omega, by omega⟩, ⟨Or.inr ⟨l4, q4⟩, by omega, by omega⟩, by omega, HGn.out, HPg.out⟩
  · have HC1 : Hid (Calls Try.prog 29 #[.pointer (some ⟨db, 0, none⟩)] w fun e w' => e = .returned (.tuple #[.pointer none, .int .i64 d.openErr]) ∧ Below w.heap.size w w') := by
      refine h.openL.mono ?_
      rintro e w' ⟨B, h2, _⟩
      exact ⟨h2 ho, B⟩
    have HC2 : Hid (∀ (w5 : World) (Y : Nat → Prop), T2 s w0 w5 db rb d d Y → Calls Try.prog 35 #[.pointer (some ⟨rb, 0, none⟩)] w5 fun e w' => e = .returned (.tuple #[.pointer none, .int .i64 d.openErr]) ∧ Below w5.heap.size w5 w') := fun w5 Y h5 => by
      refine (h5.openR hM.out).mono ?_
      rintro e w' ⟨B, h2, _⟩
      exact ⟨h2 ho, B⟩
    clear h X hz hs hm ho
    generalize d.openErr = er at *
    unfold xcells at *
    go_enter Try.func13, Try.ntmps13
    go_wp2_with (first
      | (go_at_call 29; go_loud (with_reducible refine HC1.out.mono ?_); rintro e w3 ⟨rfl, B3⟩; have HT3 := hid (HH.out.grow B3); have HX3 := hid (HX.out.below B3 HX.out.lt); have x30 := HX3.out.cell 2; clear B3)
      | (go_at_call 35; go_loud (with_reducible refine (HC2.out _ _ HT3.out).mono ?_); rintro e w4 ⟨rfl, B4⟩; have HT4 := hid (HT3.out.grow B4); have HX4 := hid (HX3.out.below B4 HX3.out.lt); have x41 := HX4.out.cell 1; have x43 := HX4.out.cell 3; have x4f := fun i => HX4.out.frozen i; clear B4)
      | fail)
    go_ret
    exact ⟨rfl, db, rb, _, _, none, _, (HT4.out.set (g := xb) HZ.out HS.out _).set (g := xb) HZ.out HS.out _, Blk.set (i := 3) (Blk.set (i := 1) HX4.out _) _, HZ.out, HS.out, rfl, rfl⟩
end Go.Proofs.Ytnecigbncggogaa
namespace Go.Proofs.Ytnecigbncggogaa
open Go.RowKit
set_option linter.unusedVariables false
set_option maxRecDepth 20000
variable {s : Nat} {w0 w : World} {db rb : Nat} {d r : Dk} {Z : Nat → Prop}

theorem Two.grow {xb c : Nat} {o : Option Pk} {pv qv : Value} {Z' : Nat → Prop} {w' : World} (h : Two s Z w db rb xb d c o pv qv) (B : Below w.heap.size w w') (hZ : ∀ k, Z k → Z' k) : Two s Z' w' db rb xb d c o pv qv := by
  cases o with
  | none => exact h
  | some k =>
    obtain ⟨pb, qb, h1, h2, P, Q, z1, z2, h3⟩ := h
    exact ⟨pb, qb, h1, h2, P.below B, Q.below B, ⟨hZ _ z1.1, z1.2⟩, ⟨hZ _ z2.1, z2.2⟩, h3⟩
theorem Two.more {xb c c' : Nat} {o : Option Pk} {pv qv : Value} {d' : Dk} (h : Two s Z w db rb xb d c o pv qv) (hc : c ≤ c') (hp : d'.pages = d.pages) : Two s Z w db rb xb d' c' o pv qv := by
  cases o with
  | none => exact h
  | some k =>
    obtain ⟨pb, qb, h1, h2, P, Q, z1, z2, h3, h4, h5⟩ := h
    exact ⟨pb, qb, h1, h2, P, Q, z1, z2, h3, by omega, by rw [hp]; exact h5⟩
/-- The cells of an act. -/
def ocells (kind n : Int) (bp : Option Addr) (bl bc : Nat) (kp : Option Addr) (kl kc : Nat) (torn cut : Int) : List Value := [.int .i64 kind, .int .i64 n, .slice bp bl bc, .slice kp kl kc, .int .i64 torn, .int .i64 cut]
/-- Both sides, with the act in a variable. -/
theorem BW.boxed {xb c : Nat} (h : BW s w0 w xb d c) (oc : List Value) (t : TypeId) : ∃ db rb pv qv o Z, T2 s w0 (w.alloc (.cells oc.toArray t)) db rb d d Z ∧ Blk (w.alloc (.cells oc.toArray t)) xb (xcells db rb pv qv) 39 ∧ (Z xb ∧ s ≤ xb) ∧ Two s Z (w.alloc (.cells oc.toArray t)) db rb xb d c o pv qv ∧ Blk (w.alloc (.cells oc.toArray t)) w.heap.size oc t ∧ (Z w.heap.size ∧ s ≤ w.heap.size ∧ w.heap.size ≠ xb) ∧ (∀ b, pv = .pointer (some ⟨b, 0, none⟩) → w.heap.size ≠ b) ∧ (∀ b, qv = .pointer (some ⟨b, 0, none⟩) → w.heap.size ≠ b) := by
  obtain ⟨db, rb, pv, qv, o, Z, T, X, hz, hs, W⟩ := h
  have B : Below w.heap.size w (w.alloc (.cells oc.toArray t)) := (Below.refl _ _).alloc (Nat.le_refl _) _
  have hl := T.lt xb hz
  refine ⟨db, rb, pv, qv, o, _, T.add B, X.below B X.lt, ⟨Or.inl hz, hs⟩, W.grow B (fun k z => Or.inl z), Blk.new w oc t, ⟨Or.inr ⟨Nat.le_refl _, by simp⟩, T.size, by omega⟩, ?_, ?_⟩
  · intro b e
    cases o with
    | none => rw [W.1] at e; cases e
    | some k =>
      obtain ⟨pb, qb, h1, h2, P, Q, z1, z2, h3⟩ := W
      rw [h1] at e
      simp only [Value.pointer.injEq, Option.some.injEq, Addr.mk.injEq, and_true] at e
      have := P.lt
      omega
  · intro b e
    cases o with
    | none => rw [W.2] at e; cases e
    | some k =>
      obtain ⟨pb, qb, h1, h2, P, Q, z1, z2, h3⟩ := W
      rw [h2] at e
      simp only [Value.pointer.injEq, Option.some.injEq, Addr.mk.injEq, and_true] at e
      have := Q.lt
      omega
theorem Dk.cm_rest (d : Dk) (g n : Nat) : (d.cm g n).pages = d.pages ∧ (d.cm g n).pend.length ≤ d.pend.length + 1 := by
  unfold Dk.cm
  have h1 := d.pend_sy
  have h2 := d.sy.pend_wr ((g % 2 : Nat) : Int) (headPage g n)
  have h3 := (d.sy.wr ((g % 2 : Nat) : Int) (headPage g n)).pend_sy
  split
  · exact ⟨d.sy_pages, by omega⟩
  · split
    · exact ⟨by rw [Dk.wr_pages, Dk.sy_pages], by omega⟩
    · exact ⟨by rw [Dk.sy_pages, Dk.wr_pages, Dk.sy_pages], by omega⟩
theorem Pk.cm_rest (k : Pk) (d : Dk) (n : Int) : (k.cmDk d n).pages = d.pages ∧ (k.cmDk d n).pend.length ≤ d.pend.length + 1 ∧ (k.cm d n).gen ≤ k.gen + 1 := by
  have h := d.cm_rest (k.gen + 1) n.toNat
  unfold Pk.cmDk Pk.cm
  cases k.failed
  · simp only [Bool.false_eq_true, if_false]
    cases d.rootOk n
    · simp
    · simp only [Bool.true_eq_false, if_false]
      refine ⟨h.1, h.2, ?_⟩
      split
      · exact Nat.le_refl _
      · exact Nat.le_succ _
  · simp
/-- What an act ends with. -/
def actEnd (s : Nat) (w0 : World) (xb : Nat) (d : Dk) (c : Nat) (e : Ending) (w' : World) : Prop := e = .returned (.bool true) ∧ ∃ d', BW s w0 w' xb d' (c + 1) ∧ d'.pages = d.pages ∧ d'.pend.length ≤ d.pend.length + 3
set_option maxHeartbeats 4000000 in
theorem act_commit (xb c : Nat) (h : BW s w0 w xb d c) (hm : d.pend.length < 900000) (hc : c ≤ 1000) (n : Int) (bp : Option Addr) (bl bc : Nat) (kp : Option Addr) (kl kc : Nat) (torn cut : Int)
    :
    Calls Try.prog 16 #[.pointer (some ⟨xb, 0, none⟩), .agg #[.int .i64 2, .int .i64 n, .slice bp bl bc, .slice kp kl kc, .int .i64 torn, .int .i64 cut]] w (actEnd s w0 xb d c) := by
  obtain ⟨db, rb, pv, qv, o, Z, T, X, ⟨hz, hs⟩, W, O, ⟨oz, os, on⟩, np, nq⟩ := h.boxed (ocells 2 n bp bl bc kp kl kc torn cut) 46
  unfold ocells xcells at *
  have o0 := O.cell 0
  have o1 := O.cell 1
  have HT := hid T
  have HX := hid X
  have HO := hid O
  have HZ := hid hz
  have HS := hid hs
  have HW := hid W
  have HOZ := hid oz
  unfold actEnd
  cases o with
  | none =>
    obtain ⟨rfl, rfl⟩ := W
    have x3 := X.cell 3
    clear h T X O hz hs oz os on np nq hm hc
    go_enter Try.func16, Try.ntmps16
    go_wp2
    go_ret
    exact ⟨rfl, d, ⟨_, _, _, _, none, _, HT.out, HX.out, HZ.out, HS.out, HW.out⟩, rfl, Nat.le_add_right _ _⟩
  | some k =>
    obtain ⟨pb, qb, rfl, rfl, P, Q, ⟨pz, ps, pn⟩, ⟨qz, qs, qn⟩, hpq, hg, hp3⟩ := W
    have x3 := X.cell 3
    have x1 := X.cell 1
    have np' := hid (np pb rfl)
    have nq' := hid (nq qb rfl)
    have HP := hid P
    have HQ := hid Q
    have C1 := hid ((T.grow (Below.refl _ _).drew).commitL pb n k P.drew pz ps (by omega) hp3 (by omega))
    have hR := k.cm_rest d n
    have HR := hid hR
    have C2 : Hid (∀ w5 : World, T2 s w0 w5 db rb (k.cmDk d n) d Z → Rag w5 qb rb k → Calls Try.prog 52 #[.pointer (some ⟨qb, 0, none⟩), .int .i64 n] w5 fun e w' => e = .returned (.int .i64 (k.cmErr d n)) ∧ T2 s w0 w' db rb (k.cmDk d n) (k.cmDk d n) Z ∧ Rag w' qb rb (k.cm d n) ∧ Kept (fun j => old s Z j ∧ j ≠ qb) w5 w') := fun w5 t5 q5 => t5.commitR qb n k q5 qz qs (by omega) hp3 (by omega)
    have m1 : Hid (old s Z xb ∧ xb ≠ pb) := ⟨Or.inr hz, fun e => pn e.symm⟩
    have m2 : Hid (old s Z w.heap.size ∧ w.heap.size ≠ pb) := ⟨Or.inr oz, np'.out⟩
    have m3 : Hid (old s Z qb ∧ qb ≠ pb) := ⟨Or.inr qz, fun e => hpq e.symm⟩
    have m4 : Hid (old s Z xb ∧ xb ≠ qb) := ⟨Or.inr hz, fun e => qn e.symm⟩
    have m5 : Hid (old s Z w.heap.size ∧ w.heap.size ≠ qb) := ⟨Or.inr oz, nq'.out⟩
    have m6 : Hid (old s Z pb ∧ pb ≠ qb) := ⟨Or.inr pz, hpq⟩
    have HFin : Hid (∀ w' : World, Pag w' pb db (k.cm d n) → Rag w' qb rb (k.cm d n) → Two s Z w' db rb xb (k.cmDk d n) (c + 1) (some (k.cm d n)) (.pointer (some ⟨pb, 0, none⟩)) (.pointer (some ⟨qb, 0, none⟩))) := fun w' p' q' => ⟨pb, qb, rfl, rfl, p', q', ⟨pz, ps, pn⟩, ⟨qz, qs, qn⟩, hpq, by have := hR.2.2; omega, by rw [hR.1]; exact hp3⟩
    clear h T X O hz hs oz os on np nq hm hc hg hp3 P Q pz ps pn qz qs qn hpq HW hR
    generalize k.cmErr d n = E at *
    generalize k.cmDk d n = D at *
    generalize k.cm d n = K at *
    go_enter Try.func16, Try.ntmps16
    go_wp2
    go_region_held_law (fun w' => w'.cell? ⟨xb, 1, none⟩ = some (.pointer (some ⟨pb, 0, none⟩)) ∧ w'.cell? ⟨xb, 3, none⟩ = some (.pointer (some ⟨qb, 0, none⟩)) ∧ w'.cell? ⟨w.heap.size, 1, none⟩ = some (.int .i64 n)) (first | exact ⟨x1, x3, o1⟩ | exact ⟨HX3.out.cell 1, HX3.out.cell 3, HO3.out.cell 1⟩ | exact ⟨HX4.out.cell 1, HX4.out.cell 3, HO4.out.cell 1⟩)
      (first
        | (go_at_call 26; go_loud (with_reducible refine C1.out.mono ?_); rintro e w3 ⟨rfl, T3, P3, K3⟩; have HT3 := hid T3; have HP3 := hid P3; have HX3 := hid (K3.blk HX.out.drew m1.out); have HO3 := hid (K3.blk HO.out.drew m2.out); have HQ3 := hid (HQ.out.drew.kept K3 m3.out); clear T3 P3 K3)
        | (go_at_call 52; go_loud (with_reducible refine (C2.out _ HT3.out HQ3.out).mono ?_); rintro e w4 ⟨rfl, T4, Q4, K4⟩; have HT4 := hid T4; have HQ4 := hid Q4; have HX4 := hid (K4.blk HX3.out m4.out); have HO4 := hid (K4.blk HO3.out m5.out); have HP4 := hid (HP3.out.kept K4 m6.out); clear T4 Q4 K4)
        | fail)
    all_goals go_wp2
    all_goals go_ret
    all_goals exact ⟨rfl, D, ⟨_, _, _, _, some K, _, HT4.out, HX4.out, HZ.out, HS.out, HFin.out _ HP4.out HQ4.out⟩, HR.out.1, by have := HR.out.2.1; omega⟩
end Go.Proofs.Ytnecigbncggogaa
namespace Go.Proofs.Ytnecigbncggogaa
open Go.RowKit
set_option linter.unusedVariables false
set_option maxRecDepth 20000
variable {s : Nat} {w0 w : World} {db rb : Nat} {d r : Dk} {Z : Nat → Prop}

theorem Two.kept {xb c : Nat} {o : Option Pk} {pv qv : Value} {w' : World} (h : Two s Z w db rb xb d c o pv qv) (K : Kept (old s Z) w w') : Two s Z w' db rb xb d c o pv qv := by
  cases o with
  | none => exact h
  | some k =>
    obtain ⟨pb, qb, h1, h2, P, Q, z1, z2, h3⟩ := h
    exact ⟨pb, qb, h1, h2, P.kept K (Or.inr z1.1), Q.kept K (Or.inr z2.1), z1, z2, h3⟩
set_option maxHeartbeats 4000000 in
theorem act_arm (xb c : Nat) (h : BW s w0 w xb d c) (n : Int) (hn : n ≤ 9223372036854775807) (bp : Option Addr) (bl bc : Nat) (kp : Option Addr) (kl kc : Nat) (torn cut : Int) :
    Calls Try.prog 16 #[.pointer (some ⟨xb, 0, none⟩), .agg #[.int .i64 3, .int .i64 n, .slice bp bl bc, .slice kp kl kc, .int .i64 torn, .int .i64 cut]] w (actEnd s w0 xb d c) := by
  obtain ⟨db, rb, pv, qv, o, Z, T, X, ⟨hz, hs⟩, W, O, ⟨oz, os, on⟩, np, nq⟩ := h.boxed (ocells 3 n bp bl bc kp kl kc torn cut) 46
  unfold ocells xcells at *
  have o0 := O.cell 0
  have o1 := O.cell 1
  have x0 := X.cell 0
  have HX := hid X
  have HO := hid O
  have HZ := hid hz
  have HS := hid hs
  have HW := hid W
  have HOZ := hid oz
  have C1 := hid ((T.grow (Below.refl _ _).drew).armL n hn)
  have C2 : Hid (∀ w5 : World, T2 s w0 w5 db rb (d.armed n) d Z → Calls Try.prog 48 #[.pointer (some ⟨rb, 0, none⟩), .int .i64 n] w5.drew fun e w' => e = .returned (.tuple #[]) ∧ T2 s w0 w' db rb (d.armed n) (d.armed n) Z ∧ Kept (old s Z) w5.drew w') := fun w5 t5 => (t5.grow (Below.refl _ _).drew).armR n hn
  unfold actEnd
  clear h T X O hz hs oz os on np nq W hn
  go_enter Try.func16, Try.ntmps16
  go_wp2
  go_region_held_law (fun w' => w'.cell? ⟨xb, 0, none⟩ = some (.pointer (some ⟨db, 0, none⟩)) ∧ w'.cell? ⟨w.heap.size, 1, none⟩ = some (.int .i64 n)) (first | exact ⟨x0, o1⟩ | exact ⟨HX3.out.cell 0, HO3.out.cell 1⟩)
    (first
      | (go_at_call 27; go_loud (with_reducible refine C1.out.mono ?_); rintro e w3 ⟨rfl, T3, K3⟩; have HC3 := hid (C2.out _ T3); have HX3 := hid (K3.blk HX.out.drew (Or.inr HZ.out)); have HO3 := hid (K3.blk HO.out.drew (Or.inr HOZ.out)); have HW3 := hid (Two.kept (w := (w.alloc (.cells #[.int .i64 3, .int .i64 n, .slice bp bl bc, .slice kp kl kc, .int .i64 torn, .int .i64 cut] 46)).drew) HW.out K3); clear T3 K3)
      | fail)
  all_goals (
    have y2 := HX3.out.cell 2
    have y1 := HO3.out.cell 1
    try go_wp2
    go_region_held_law (fun w' => w'.cell? ⟨xb, 2, none⟩ = some (.pointer (some ⟨rb, 0, none⟩)) ∧ w'.cell? ⟨w.heap.size, 1, none⟩ = some (.int .i64 n)) (first | exact ⟨y2, y1⟩ | exact ⟨HX4.out.cell 2, HO4.out.cell 1⟩)
      (first
        | (go_at_call 48; go_loud (with_reducible refine HC3.out.mono ?_); rintro e w4 ⟨rfl, T4, K4⟩; have HT4 := hid T4; have HX4 := hid (K4.blk HX3.out.drew (Or.inr HZ.out)); have HO4 := hid (K4.blk HO3.out.drew (Or.inr HOZ.out)); have HW4 := hid (Two.kept (w := w3.drew) HW3.out K4); clear T4 K4)
        | fail)
    all_goals go_wp2
    all_goals go_ret
    all_goals exact ⟨rfl, d.armed n, ⟨_, _, _, _, _, _, HT4.out, HX4.out, HZ.out, HS.out, HW4.out.more (Nat.le_succ _) rfl⟩, rfl, Nat.le_add_right _ _⟩)
set_option maxHeartbeats 4000000 in
theorem act_read (xb c : Nat) (h : BW s w0 w xb d c) (hm : d.pend.length < 900000) (kind n : Int) (bp : Option Addr) (bl bc : Nat) (kp : Option Addr) (kl kc : Nat) (torn cut : Int)
    (k1 : ¬ kind = 1) (k2 : ¬ kind = 2) (k3 : ¬ kind = 3) (k4 : ¬ kind = 4) (k5 : ¬ kind = 5) (k6 : ¬ kind = 6) :
    Calls Try.prog 16 #[.pointer (some ⟨xb, 0, none⟩), .agg #[.int .i64 kind, .int .i64 n, .slice bp bl bc, .slice kp kl kc, .int .i64 torn, .int .i64 cut]] w (actEnd s w0 xb d c) := by
  obtain ⟨db, rb, pv, qv, o, Z, T, X, ⟨hz, hs⟩, W, O, ⟨oz, os, on⟩, np, nq⟩ := h.boxed (ocells kind n bp bl bc kp kl kc torn cut) 46
  unfold ocells xcells at *
  have b1 : (kind == 1) = false := by simpa using k1
  have b2 : (kind == 2) = false := by simpa using k2
  have b3 : (kind == 3) = false := by simpa using k3
  have b4 : (kind == 4) = false := by simpa using k4
  have b5 : (kind == 5) = false := by simpa using k5
  have b6 : (kind == 6) = false := by simpa using k6
  have o0 := O.cell 0
  have o1 := O.cell 1
  have HT := hid T
  have HX := hid X
  have HO := hid O
  have HZ := hid hz
  have HS := hid hs
  have HW := hid W
  have HOZ := hid oz
  have HOk := hid T.okk
  unfold actEnd
  cases o with
  | none =>
    obtain ⟨rfl, rfl⟩ := W
    have x3 := X.cell 3
    clear h T X O hz hs oz os on np nq hm
    go_enter Try.func16, Try.ntmps16
    go_wp2
    go_ret
    exact ⟨rfl, d, ⟨_, _, _, _, none, _, HT.out, HX.out, HZ.out, HS.out, HW.out⟩, rfl, Nat.le_add_right _ _⟩
  | some k =>
    obtain ⟨pb, qb, rfl, rfl, P, Q, ⟨pz, ps, pn⟩, ⟨qz, qs, qn⟩, hpq, hg, hp3⟩ := W
    have x3 := X.cell 3
    have x1 := X.cell 1
    have HQ := hid Q
    have hm5 : d.pend.length < 1000000 := by omega
    have C1 := (T.grow (Below.refl _ _).drew).preadL pb n k P.drew
    have C2 : ∀ w5 : World, T2 s w0 w5 db rb d d Z → Rag w5 qb rb k → Calls Try.prog 36 #[.pointer (some ⟨qb, 0, none⟩), .int .i64 n] w5.drew fun e w' => Below w5.heap.size w5 w' ∧ (d.rdErr n ≠ 0 → e = .returned (.tuple #[.slice none 0 0, .int .i64 (d.rdErr n)])) ∧ (d.rdErr n = 0 → ∃ g c, e = .returned (.tuple #[.slice (some ⟨g, 0, none⟩) 508 c, .int .i64 0]) ∧ Byts w' (some ⟨g, 0, none⟩) ((d.has n).take 508)) := fun w5 t5 q5 =>
      ((t5.grow (Below.refl _ _).drew).preadR qb n k q5.drew hm5).mono (fun e w' x => ⟨(Below.refl _ _).drew.trans x.1, x.2⟩)
    have HFin : Hid (∀ w' : World, Below (w.alloc (.cells #[.int .i64 kind, .int .i64 n, .slice bp bl bc, .slice kp kl kc, .int .i64 torn, .int .i64 cut] 46)).heap.size (w.alloc (.cells #[.int .i64 kind, .int .i64 n, .slice bp bl bc, .slice kp kl kc, .int .i64 torn, .int .i64 cut] 46)) w' → BW s w0 w' xb d (c + 1)) := fun w' B => ⟨_, _, _, _, some k, _, HT.out.grow B, HX.out.below B HX.out.lt, HZ.out, HS.out, (HW.out.grow B (fun _ z => z)).more (Nat.le_succ _) rfl⟩
    have HN0 : Hid (d.rdErr n ≠ 0 ∨ d.rdErr n = 0) := (Decidable.em (d.rdErr n = 0)).symm
    clear h X O hz hs oz os on np nq hm hg hp3 pz ps pn qz qs qn hpq k1 k2 k3 k4 k5 k6
    rcases HN0.out with hr | hr
    · have HC1 : Hid (Calls Try.prog 30 #[.pointer (some ⟨pb, 0, none⟩), .int .i64 n] (w.alloc (.cells #[.int .i64 kind, .int .i64 n, .slice bp bl bc, .slice kp kl kc, .int .i64 torn, .int .i64 cut] 46)).drew fun e w' => e = .returned (.tuple #[.slice none 0 0, .int .i64 (d.rdErr n)]) ∧ Below (w.alloc (.cells #[.int .i64 kind, .int .i64 n, .slice bp bl bc, .slice kp kl kc, .int .i64 torn, .int .i64 cut] 46)).heap.size (w.alloc (.cells #[.int .i64 kind, .int .i64 n, .slice bp bl bc, .slice kp kl kc, .int .i64 torn, .int .i64 cut] 46)) w') := C1.mono (fun e w' x => ⟨x.2.1 hr, (Below.refl _ _).drew.trans x.1⟩)
      have HC2 : Hid (∀ w5 : World, T2 s w0 w5 db rb d d Z → Rag w5 qb rb k → Calls Try.prog 36 #[.pointer (some ⟨qb, 0, none⟩), .int .i64 n] w5.drew fun e w' => e = .returned (.tuple #[.slice none 0 0, .int .i64 (d.rdErr n)]) ∧ Below w5.heap.size w5 w') := fun w5 t5 q5 => (C2 w5 t5 q5).mono (fun e w' x => ⟨x.2.1 hr, x.1⟩)
      clear C1 C2 HN0 hr T P Q
      generalize d.rdErr n = E at *
      go_enter Try.func16, Try.ntmps16
      go_wp2
      go_region_held_law (fun w' => w'.cell? ⟨xb, 1, none⟩ = some (.pointer (some ⟨pb, 0, none⟩)) ∧ w'.cell? ⟨w.heap.size, 1, none⟩ = some (.int .i64 n)) (first | exact ⟨x1, o1⟩ | exact ⟨HX3.out.cell 1, HO3.out.cell 1⟩)
        (first
          | (go_at_call 30; go_loud (with_reducible refine HC1.out.mono ?_); rintro e w3 ⟨rfl, B3⟩; have HB3 := hid B3; have HC3 := hid (HC2.out w3 (HT.out.grow B3) (HQ.out.below B3)); have HX3 := hid (HX.out.below B3 HX.out.lt); have HO3 := hid (HO.out.below B3 HO.out.lt); clear B3)
          | fail)
      all_goals (
        have y3 := HX3.out.cell 3
        have y1 := HO3.out.cell 1
        try go_wp2
        go_region_held_law (fun w' => w'.cell? ⟨xb, 3, none⟩ = some (.pointer (some ⟨qb, 0, none⟩)) ∧ w'.cell? ⟨w.heap.size, 1, none⟩ = some (.int .i64 n)) (first | exact ⟨y3, y1⟩ | exact ⟨HX4.out.cell 3, HO4.out.cell 1⟩)
          (first
            | (go_at_call 36; go_loud (with_reducible refine HC3.out.mono ?_); rintro e w4 ⟨rfl, B4⟩; have HB4 := hid (HB3.out.trans (B4.mono HB3.out.size)); have HX4 := hid (HX3.out.below B4 HX3.out.lt); have HO4 := hid (HO3.out.below B4 HO3.out.lt); clear B4)
            | fail)
        all_goals (
          have v1 : (convert 22 9 (.slice none 0 0)).run Try.prog w4 = .ok (.string ⟨#[]⟩) w4 := conv_byts (w := w4) (p := none) (l := []) 0 (Or.inl rfl)
          go_wp2
          go_ret
          exact ⟨rfl, d, HFin.out _ HB4.out, rfl, Nat.le_add_right _ _⟩))
    · have HC1 : Hid (Calls Try.prog 30 #[.pointer (some ⟨pb, 0, none⟩), .int .i64 n] (w.alloc (.cells #[.int .i64 kind, .int .i64 n, .slice bp bl bc, .slice kp kl kc, .int .i64 torn, .int .i64 cut] 46)).drew fun e w' => ∃ g, e = .returned (.tuple #[.slice (some ⟨g, 0, none⟩) 508 508, .int .i64 0]) ∧ Byts w' (some ⟨g, 0, none⟩) ((d.has n).take 508) ∧ Below (w.alloc (.cells #[.int .i64 kind, .int .i64 n, .slice bp bl bc, .slice kp kl kc, .int .i64 torn, .int .i64 cut] 46)).heap.size (w.alloc (.cells #[.int .i64 kind, .int .i64 n, .slice bp bl bc, .slice kp kl kc, .int .i64 torn, .int .i64 cut] 46)) w') := C1.mono (fun e w' x => by
          obtain ⟨g, _, he, y⟩ := x.2.2 hr
          exact ⟨g, he, y, (Below.refl _ _).drew.trans x.1⟩)
      have HC2 : Hid (∀ w5 : World, T2 s w0 w5 db rb d d Z → Rag w5 qb rb k → Calls Try.prog 36 #[.pointer (some ⟨qb, 0, none⟩), .int .i64 n] w5.drew fun e w' => ∃ g c, e = .returned (.tuple #[.slice (some ⟨g, 0, none⟩) 508 c, .int .i64 0]) ∧ Byts w' (some ⟨g, 0, none⟩) ((d.has n).take 508) ∧ Below w5.heap.size w5 w') := fun w5 t5 q5 => (C2 w5 t5 q5).mono (fun e w' x => by
          obtain ⟨g, c, he, y⟩ := x.2.2 hr
          exact ⟨g, c, he, y, x.1⟩)
      have HCV : Hid (∀ (w5 : World) (g c : Nat), Byts w5 (some ⟨g, 0, none⟩) ((d.has n).take 508) → (convert 22 9 (.slice (some ⟨g, 0, none⟩) 508 c)).run Try.prog w5 = .ok (.string ⟨((d.has n).take 508).toArray⟩) w5) := fun w5 g c y => by
        have := conv_byts c y
        rwa [show ((d.has n).take 508).length = 508 by rw [List.length_take, HOk.out.has]; rfl] at this
      clear C1 C2 HN0 hr T P Q
      generalize (d.has n).take 508 = b at *
      go_enter Try.func16, Try.ntmps16
      go_wp2
      go_region_held_law (fun w' => w'.cell? ⟨xb, 1, none⟩ = some (.pointer (some ⟨pb, 0, none⟩)) ∧ w'.cell? ⟨w.heap.size, 1, none⟩ = some (.int .i64 n)) (first | exact ⟨x1, o1⟩ | exact ⟨HX3.out.cell 1, HO3.out.cell 1⟩)
        (first
          | (go_at_call 30; go_loud (with_reducible refine HC1.out.mono ?_); rintro e w3 ⟨g3, rfl, Y3, B3⟩; have HY3 := hid Y3; have HB3 := hid B3; have HC3 := hid (HC2.out w3 (HT.out.grow B3) (HQ.out.below B3)); have HX3 := hid (HX.out.below B3 HX.out.lt); have HO3 := hid (HO.out.below B3 HO.out.lt); clear B3 Y3)
          | fail)
      all_goals (
        have y3 := HX3.out.cell 3
        have y1 := HO3.out.cell 1
        try go_wp2
        go_region_held_law (fun w' => w'.cell? ⟨xb, 3, none⟩ = some (.pointer (some ⟨qb, 0, none⟩)) ∧ w'.cell? ⟨w.heap.size, 1, none⟩ = some (.int .i64 n)) (first | exact ⟨y3, y1⟩ | exact ⟨HX4.out.cell 3, HO4.out.cell 1⟩)
          (first
            | (go_at_call 36; go_loud (with_reducible refine HC3.out.mono ?_); rintro e w4 ⟨g4, c4, rfl, Y4, B4⟩; have HB4 := hid (HB3.out.trans (B4.mono HB3.out.size)); have HX4 := hid (HX3.out.below B4 HX3.out.lt); have HO4 := hid (HO3.out.below B4 HO3.out.lt); have v1 := HCV.out w4 g3 508 (HY3.out.below B4); have v2 := HCV.out w4 g4 c4 Y4; clear B4 Y4)
            | fail)
        all_goals (
          go_wp2
          go_ret
          exact ⟨rfl, d, HFin.out _ HB4.out, rfl, Nat.le_add_right _ _⟩))
end Go.Proofs.Ytnecigbncggogaa
namespace Go.Proofs.Ytnecigbncggogaa
open Go.RowKit
set_option linter.unusedVariables false
set_option maxRecDepth 20000
variable {s : Nat} {w0 w : World} {db rb : Nat} {d r : Dk} {Z : Nat → Prop}

theorem T2.cloneB (h : T2 s w0 w db rb d r Z) (hm : d.pend.length < 1000000) :
    Calls Try.prog 53 #[.pointer (some ⟨db, 0, none⟩)] w fun e w' => ∃ cb, e = .returned (.pointer (some ⟨cb, 0, none⟩)) ∧ PD w' cb (fun k => w.heap.size ≤ k ∧ k < w'.heap.size) d ∧ Below w.heap.size w w' := by
  obtain ⟨F, G, ⟨lb, nb, pv, P, _⟩, _⟩ := h.ex
  refine (clone_any db lb nb pv d w P hm).mono ?_
  rintro e w' ⟨lb', nb', pv', rfl, P', B, hn⟩
  exact ⟨_, rfl, ⟨lb', nb', pv', P', fun k hk => ⟨hn k hk, P'.lt hk⟩⟩, B⟩
theorem T2.swapG {cb : Nat} {d' : Dk} {Y C : Nat → Prop} (h : T2 s w0 w db rb d' r Y) (P : PD w cb C d) (hC : ∀ k, C k → Y k ∧ s ≤ k ∧ k < w.heap.size) (hZ : ∀ k, Z k → Y k ∧ ¬ C k) : T2 s w0 w cb rb d r Z := by
  obtain ⟨F, G, _, R, dis, hF, hG⟩ := h.ex
  exact ⟨h.bel, h.size, fun k z => h.lt k (hZ k z).1, C, G, P, R, fun k c g => (hG k g).2.2 (hC k c).1, fun k c => ⟨(hC k c).2.1, (hC k c).2.2, fun z => (hZ k z).2 c⟩, fun k g => ⟨(hG k g).1, (hG k g).2.1, fun z => (hG k g).2.2 (hZ k z).1⟩⟩
/-- What is at hand where all was cloned, and the old pager has committed. -/
def Mov (s : Nat) (w0 w' : World) (xb a b e : Nat) (db rb cb mb qb : Nat) (d : Dk) (k : Pk) (Z : Nat → Prop) : Prop :=
  ∃ d', T2 s w0 w' db rb d' d (fun j => (Z j ∨ (a ≤ j ∧ j < b)) ∨ (b ≤ j ∧ j < e)) ∧ PD w' cb (fun j => a ≤ j ∧ j < b) d ∧ Pag w' mb cb k ∧ Rag w' qb rb k ∧ (b ≤ mb ∧ mb < e)
set_option maxHeartbeats 4000000 in
theorem act_move (xb c : Nat) (h : BW s w0 w xb d c) (hm : d.pend.length < 900000) (hc : c ≤ 1000) (n : Int) (bp : Option Addr) (bl bc : Nat) (kp : Option Addr) (kl kc : Nat) (torn cut : Int) :
    Calls Try.prog 16 #[.pointer (some ⟨xb, 0, none⟩), .agg #[.int .i64 6, .int .i64 n, .slice bp bl bc, .slice kp kl kc, .int .i64 torn, .int .i64 cut]] w (actEnd s w0 xb d c) := by
  obtain ⟨db, rb, pv, qv, o, Z, T, X, ⟨hz, hs⟩, W, O, ⟨oz, os, on⟩, np, nq⟩ := h.boxed (ocells 6 n bp bl bc kp kl kc torn cut) 46
  unfold ocells xcells at *
  have o0 := O.cell 0
  have HT := hid T
  have HX := hid X
  have HZ := hid hz
  have HS := hid hs
  have HW := hid W
  unfold actEnd
  cases o with
  | none =>
    obtain ⟨rfl, rfl⟩ := W
    have x3 := X.cell 3
    clear h T X O hz hs oz os on np nq hm hc
    go_enter Try.func16, Try.ntmps16
    go_wp2
    go_ret
    exact ⟨rfl, d, ⟨_, _, _, _, none, _, HT.out, HX.out, HZ.out, HS.out, HW.out⟩, rfl, Nat.le_add_right _ _⟩
  | some k =>
    obtain ⟨pb, qb, rfl, rfl, P, Q, ⟨pz, ps, pn⟩, ⟨qz, qs, qn⟩, hpq, hg, hp3⟩ := W
    have x3 := X.cell 3
    have x0 := X.cell 0
    have hpl := T.lt pb pz
    have hql := T.lt qb qz
    have hxl := T.lt xb hz
    have hsz := T.size
    generalize hw1 : (w.alloc (.cells #[.int .i64 6, .int .i64 n, .slice bp bl bc, .slice kp kl kc, .int .i64 torn, .int .i64 cut] 46)) = w1 at *
    have C1 := hid (T.cloneB (by omega))
    have C2 : Hid (∀ (w5 : World) (cb : Nat), Below w1.heap.size w1 w5 → Calls Try.prog 54 #[.pointer (some ⟨pb, 0, none⟩), .pointer (some ⟨cb, 0, none⟩)] w5 fun e w' => ∃ mb, e = .returned (.pointer (some ⟨mb, 0, none⟩)) ∧ Pag w' mb cb k ∧ Below w5.heap.size w5 w' ∧ w5.heap.size ≤ mb) := fun w5 cb B => (pmove_any pb cb k (P.below B)).mono (fun e w' x => ⟨_, x.1, x.2.1, x.2.2.1, Nat.le_refl _⟩)
    have C3 : Hid (∀ (w2 w3 : World) (cb mb : Nat), PD w2 cb (fun j => w1.heap.size ≤ j ∧ j < w2.heap.size) d → Below w1.heap.size w1 w2 → Pag w3 mb cb k → Below w2.heap.size w2 w3 → w2.heap.size ≤ mb → Calls Try.prog 26 #[.pointer (some ⟨pb, 0, none⟩), .int .i64 0] w3 fun e w' => ∃ E, e = .returned (.int .i64 E) ∧ Mov s w0 w' xb w1.heap.size w2.heap.size w3.heap.size db rb cb mb qb d k Z ∧ Blk w' xb [.pointer (some ⟨db, 0, none⟩), .pointer (some ⟨pb, 0, none⟩), .pointer (some ⟨rb, 0, none⟩), .pointer (some ⟨qb, 0, none⟩)] 39) := fun w2 w3 cb mb p2 b2 p3 b3 hmb => by
      have s2 := b2.size
      have s3 := b3.size
      have t3 := (T.add b2).add b3
      have hmbl : mb < w3.heap.size := p3.lt
      refine (t3.commitL pb 0 k ((P.below b2).below b3) (Or.inl (Or.inl pz)) ps (by omega) hp3 (by omega)).mono ?_
      rintro e w' ⟨he, t4, _, K⟩
      have b13 : Below w1.heap.size w1 w3 := b2.trans (b3.mono s2)
      refine ⟨_, he, ⟨_, t4, (p2.below b3).kept K (fun j hj => ⟨Or.inr (Or.inl (Or.inr hj)), by omega⟩), p3.kept K ⟨Or.inr (Or.inr ⟨hmb, hmbl⟩), by omega⟩, (Q.below b13).kept K ⟨Or.inr (Or.inl (Or.inl qz)), fun e => hpq e.symm⟩, hmb, hmbl⟩, K.blk (X.below b13 X.lt) ⟨Or.inr (Or.inl (Or.inl hz)), fun e => pn e.symm⟩⟩
    have HFin : Hid (∀ (w' : World) (a b cb mb : Nat), w1.heap.size ≤ a → a ≤ b → b ≤ w'.heap.size → Mov s w0 w' xb w1.heap.size a b db rb cb mb qb d k Z → Blk w' xb [.pointer (some ⟨db, 0, none⟩), .pointer (some ⟨pb, 0, none⟩), .pointer (some ⟨rb, 0, none⟩), .pointer (some ⟨qb, 0, none⟩)] 39 → BW s w0 ((w'.setCell ⟨xb, 0, none⟩ (.pointer (some ⟨cb, 0, none⟩))).setCell ⟨xb, 1, none⟩ (.pointer (some ⟨mb, 0, none⟩))) xb d (c + 1)) := fun w' a b cb mb h1 h2 h3 M X' => by
      obtain ⟨d', t, p, pg, rg, m1, m2⟩ := M
      have K1 := (kept_set (fun j => j ≠ xb) w' (g := xb) (i := 0) (fun o => o rfl) (.pointer (some ⟨cb, 0, none⟩))).trans (kept_set (fun j => j ≠ xb) _ (g := xb) (i := 1) (fun o => o rfl) (.pointer (some ⟨mb, 0, none⟩)))
      have t5 := (t.set (g := xb) (i := 0) (Or.inl (Or.inl hz)) hs (.pointer (some ⟨cb, 0, none⟩))).set (g := xb) (i := 1) (Or.inl (Or.inl hz)) hs (.pointer (some ⟨mb, 0, none⟩))
      have hsz5 : ((w'.setCell ⟨xb, 0, none⟩ (.pointer (some ⟨cb, 0, none⟩))).setCell ⟨xb, 1, none⟩ (.pointer (some ⟨mb, 0, none⟩))).heap.size = w'.heap.size := by rw [set_size, set_size]
      refine ⟨cb, rb, _, _, some k, (fun j => Z j ∨ (a ≤ j ∧ j < b)), t5.swapG (p.kept K1 (fun j hj => by show j ≠ xb; omega)) (fun j hj => ⟨Or.inl (Or.inr hj), by omega, by rw [hsz5]; omega⟩) (fun j hj => ?_), Blk.set (i := 1) (Blk.set (i := 0) X' _) _, Or.inl hz, hs, mb, qb, rfl, rfl, pg.kept K1 (by show mb ≠ xb; omega), rg.kept K1 (by show qb ≠ xb; omega), ⟨Or.inr ⟨m1, m2⟩, by omega, by omega⟩, ⟨Or.inl qz, qs, qn⟩, by omega, by omega, hp3⟩
      rcases hj with hj | hj
      · exact ⟨Or.inl (Or.inl hj), fun z => by have := T.lt j hj; omega⟩
      · exact ⟨Or.inr hj, fun z => by omega⟩
    have HX1 : Hid (∀ w5 : World, Below w1.heap.size w1 w5 → w5.cell? ⟨xb, 1, none⟩ = some (.pointer (some ⟨pb, 0, none⟩))) := fun w5 B => (X.below B X.lt).cell 1
    clear h T X O hz hs oz os on np nq hm hc hg hp3 P Q pz ps pn qz qs qn hpq HW HT hpl hql hxl hsz
    go_enter Try.func16, Try.ntmps16
    rw [← hw1] at *
    go_wp2_with (first
      | (go_at_call 53; go_loud (with_reducible refine C1.out.mono ?_); rintro e w2 ⟨cb, rfl, P2, B2⟩; have HP2 := hid P2; have HB2 := hid B2; have y1 := HX1.out w2 B2; clear P2 B2)
      | (go_at_call 54; go_loud (with_reducible refine (C2.out _ cb HB2.out).mono ?_); rintro e w3 ⟨mb, rfl, P3, B3, L3⟩; have HP3 := hid P3; have HB3 := hid B3; have HL3 := hid L3; have z1 := HX1.out w3 (HB2.out.trans (B3.mono HB2.out.size)); clear P3 B3 L3)
      | (go_at_call 26; go_loud (with_reducible refine (C3.out w2 _ cb mb HP2.out HB2.out HP3.out HB3.out HL3.out).mono ?_); rintro e w4 ⟨E, rfl, M4, X4⟩; have HM4 := hid M4; have HX4 := hid X4; have v0 := X4.cell 0; have v1 := X4.cell 1; have vf := fun i => X4.frozen i; clear M4 X4)
      | fail)
    go_ret
    exact ⟨rfl, d, HFin.out _ _ _ _ _ HB2.out.size HB3.out.size (by obtain ⟨_, t, _⟩ := HM4.out; have := fun j => t.lt j; have m := HM4.out; obtain ⟨_, t, _, _, _, m1, m2⟩ := m; have := t.lt _ (Or.inr (show w2.heap.size ≤ w3.heap.size - 1 ∧ w3.heap.size - 1 < w3.heap.size from ⟨by omega, by omega⟩)); omega) HM4.out HX4.out, rfl, Nat.le_add_right _ _⟩
end Go.Proofs.Ytnecigbncggogaa
namespace Go.Proofs.Ytnecigbncggogaa
open Go.RowKit
set_option linter.unusedVariables false
set_option maxRecDepth 20000
variable {s : Nat} {w0 w : World} {db rb : Nat} {d r : Dk} {Z : Nat → Prop}

theorem Two.add {xb c : Nat} {o : Option Pk} {pv qv : Value} {w' : World} (h : Two s Z w db rb xb d c o pv qv) (B : Below w.heap.size w w') : Two s (fun k => Z k ∨ (w.heap.size ≤ k ∧ k < w'.heap.size)) w' db rb xb d c o pv qv := h.grow B (fun _ z => Or.inl z)
theorem Two.same {xb c : Nat} {o : Option Pk} {pv qv : Value} {w' : World} (h : Two s Z w db rb xb d c o pv qv) (B : Below w.heap.size w w') : Two s Z w' db rb xb d c o pv qv := h.grow B (fun _ z => z)
theorem Two.far {xb c g i : Nat} {o : Option Pk} {pv qv : Value} (h : Two s Z w db rb xb d c o pv qv) (hg : ∀ b, (pv = .pointer (some ⟨b, 0, none⟩) ∨ qv = .pointer (some ⟨b, 0, none⟩)) → b ≠ g) (v : Value) : Two s Z (w.setCell ⟨g, i, none⟩ v) db rb xb d c o pv qv := by
  cases o with
  | none => exact h
  | some k =>
    obtain ⟨pb, qb, h1, h2, P, Q, z1, z2, h3⟩ := h
    exact ⟨pb, qb, h1, h2, Blk.far P (hg pb (Or.inl h1)) v, Blk.far Q (hg qb (Or.inr h2)) v, z1, z2, h3⟩
set_option maxHeartbeats 4000000 in
theorem spoil_any (xb c : Nat) (h : BW s w0 w xb d c) (hm : d.pend.length < 900000) (kind n : Int) (bp : Option Addr) (bl bc : Nat) (kp : Option Addr) (kl kc : Nat) (torn cut : Int) :
    Calls Try.prog 50 #[.pointer (some ⟨xb, 0, none⟩), .agg #[.int .i64 kind, .int .i64 n, .slice bp bl bc, .slice kp kl kc, .int .i64 torn, .int .i64 cut]] w (actEnd s w0 xb d c) := by
  obtain ⟨db, rb, pv, qv, o, Z, T, X, ⟨hz, hs⟩, W, O, ⟨oz, os, on⟩, np, nq⟩ := h.boxed (ocells kind n bp bl bc kp kl kc torn cut) 46
  unfold ocells xcells at *
  have o1 := O.cell 1
  have x0 := X.cell 0
  have x2 := X.cell 2
  have HT := hid T
  have HX := hid X
  have HO := hid O
  have HZ := hid hz
  have HS := hid hs
  have HW := hid W
  have HOZ := hid oz
  have hm5 : d.pend.length < 1000000 := by omega
  have HM := hid hm
  unfold actEnd
  by_cases hr : d.reach n = 0
  · have C1 : Hid (Calls Try.prog 37 #[.pointer (some ⟨db, 0, none⟩), .int .i64 n] (w.alloc (.cells #[.int .i64 kind, .int .i64 n, .slice bp bl bc, .slice kp kl kc, .int .i64 torn, .int .i64 cut] 46)).drew fun e w' => ∃ g, e = .returned (.tuple #[.slice (some ⟨g, 0, none⟩) 512 512, .int .i64 0]) ∧ Pg w' g (d.has n) ∧ Below (w.alloc (.cells #[.int .i64 kind, .int .i64 n, .slice bp bl bc, .slice kp kl kc, .int .i64 torn, .int .i64 cut] 46)).heap.size (w.alloc (.cells #[.int .i64 kind, .int .i64 n, .slice bp bl bc, .slice kp kl kc, .int .i64 torn, .int .i64 cut] 46)) w' ∧ (w.alloc (.cells #[.int .i64 kind, .int .i64 n, .slice bp bl bc, .slice kp kl kc, .int .i64 torn, .int .i64 cut] 46)).heap.size ≤ g) :=
      ((T.grow (Below.refl _ _).drew).readL n hr).mono (fun e w' x => ⟨_, x.1, x.2.1, (Below.refl _ _).drew.trans x.2.2, Nat.le_succ _⟩)
    have C2 : Hid (∀ (w5 : World) (Y : Nat → Prop), T2 s w0 w5 db rb d d Y → Calls Try.prog 67 #[.pointer (some ⟨rb, 0, none⟩), .int .i64 n] w5.drew fun e w' => ∃ g c, e = .returned (.tuple #[.slice (some ⟨g, 0, none⟩) 512 c, .int .i64 0]) ∧ Byts w' (some ⟨g, 0, none⟩) (d.has n) ∧ Below w5.heap.size w5 w') := fun w5 Y t5 =>
      ((t5.grow (Below.refl _ _).drew).readR n hr hm5).mono (fun e w' x => by
        obtain ⟨⟨g, c, he, y⟩, B⟩ := x
        exact ⟨g, c, he, y, (Below.refl _ _).drew.trans B⟩)
    have hl5 : (d.has n).length = 512 := T.okk.has n
    obtain ⟨K, hK, hK5⟩ : ∃ K : Nat, wrap64 ((IntKind.u64.wrap cut).tmod 512) = (K : Int) ∧ (K : Int) < 512 := by
      have := umod_bd cut 512 (by omega) (by omega)
      exact ⟨(wrap64 ((IntKind.u64.wrap cut).tmod 512)).toNat, by omega, by omega⟩
    have hKn : K < 512 := by omega
    obtain ⟨xv, hxv⟩ : ∃ xv : UInt8, (d.has n)[K]? = some xv := ⟨(d.has n)[K]'(by omega), List.getElem?_eq_getElem (by omega)⟩
    obtain ⟨b', hb'⟩ : ∃ b', b' = (d.has n).set K (xv ^^^ 1) := ⟨_, rfl⟩
    have hl' : b'.length = 512 := by rw [hb', List.length_set]; exact hl5
    have hxor : bits .xor .u8 ((xv.toNat : Nat) : Int) 1 = ((xv.toNat ^^^ 1 : Nat) : Int) := u8_xor_nat xv.toNat 1 (UInt8.toNat_lt _) (by decide)
    have HPc : Hid (∀ (w6 : World) (g : Nat), Pg w6 g (d.has n) → w6.cell? ⟨g, K, none⟩ = some (.int .u8 ((xv.toNat : Nat) : Int)) ∧ w6.frozen? ⟨g, K, none⟩ = false ∧ Blk (w6.setCell ⟨g, K, none⟩ (.int .u8 ((xv.toNat ^^^ 1 : Nat) : Int))) g (bcells b') 93) := fun w6 g b6 => by
      refine ⟨?_, b6.blk.frozen K, ?_⟩
      · refine (b6.blk.cell K).trans ?_
        rw [bcells, List.getElem?_map, hxv]
        rfl
      · have := b6.blk.set (i := K) (.int .u8 (((xv ^^^ 1).toNat : Nat) : Int))
        rw [bcells_set, UInt8.toNat_xor, ← hb'] at this
        exact this
    have HCV : Hid (∀ (w5 : World) (g c : Nat), Byts w5 (some ⟨g, 0, none⟩) (d.has n) → (convert 22 9 (.slice (some ⟨g, 0, none⟩) 512 c)).run Try.prog w5 = .ok (.string ⟨(d.has n).toArray⟩) w5) := fun w5 g c y => by
      have := conv_byts c y
      rwa [hl5] at this
    have hE1 := d.pend_wr n b'
    have C3 : Hid (∀ (w5 : World) (Y : Nat → Prop) (g : Nat), T2 s w0 w5 db rb d d Y → Blk w5 g (bcells b') 93 → Y g → Calls Try.prog 38 #[.pointer (some ⟨db, 0, none⟩), .int .i64 n, .slice (some ⟨g, 0, none⟩) 512 512] w5 fun e w' => e = .returned (.int .i64 (d.wrErr n b')) ∧ T2 s w0 w' db rb (d.wr n b') d Y ∧ Kept (old s Y) w5 w') := fun w5 Y g t5 b5 hg => by
      have := t5.writeL n (some ⟨g, 0, none⟩) b' 512 b5.byts' (fun g' off e => by simp only [Option.some.injEq, Addr.mk.injEq, and_true] at e; rw [← e.1]; exact Or.inr (Or.inl hg)) hm5
      rwa [hl'] at this
    have C4 : Hid (∀ (w5 : World) (Y : Nat → Prop) (g : Nat), T2 s w0 w5 db rb (d.wr n b') d Y → Blk w5 g (bcells b') 93 → Y g → Calls Try.prog 46 #[.pointer (some ⟨rb, 0, none⟩), .int .i64 n, .slice (some ⟨g, 0, none⟩) 512 512] w5 fun e w' => e = .returned (.int .i64 (d.wrErr n b')) ∧ T2 s w0 w' db rb (d.wr n b') (d.wr n b') Y ∧ Kept (old s Y) w5 w') := fun w5 Y g t5 b5 hg => by
      have := t5.writeR n (some ⟨g, 0, none⟩) b' 512 b5.byts' (fun g' off e => by simp only [Option.some.injEq, Addr.mk.injEq, and_true] at e; rw [← e.1]; exact Or.inr (Or.inl hg)) hm5
      rwa [hl'] at this
    have C5 : Hid (∀ (w5 : World) (Y : Nat → Prop), T2 s w0 w5 db rb (d.wr n b') (d.wr n b') Y → Calls Try.prog 44 #[.pointer (some ⟨db, 0, none⟩)] w5 fun e w' => e = .returned (.int .i64 (d.wr n b').syErr) ∧ T2 s w0 w' db rb (d.wr n b').sy (d.wr n b') Y ∧ Kept (old s Y) w5 w') := fun w5 Y t5 => t5.syncL (by omega)
    have C6 : Hid (∀ (w5 : World) (Y : Nat → Prop), T2 s w0 w5 db rb (d.wr n b').sy (d.wr n b') Y → Calls Try.prog 47 #[.pointer (some ⟨rb, 0, none⟩)] w5 fun e w' => e = .returned (.int .i64 (d.wr n b').syErr) ∧ T2 s w0 w' db rb (d.wr n b').sy (d.wr n b').sy Y ∧ Kept (old s Y) w5 w') := fun w5 Y t5 => t5.syncR (by omega)
    have HR : Hid ((d.wr n b').sy.pages = d.pages ∧ (d.wr n b').sy.pend.length ≤ d.pend.length + 1) := ⟨by rw [Dk.sy_pages, Dk.wr_pages], by have := (d.wr n b').pend_sy; omega⟩
    have HSz := hid T.size
    have HFar : Hid (∀ g, (w.alloc (.cells #[.int .i64 kind, .int .i64 n, .slice bp bl bc, .slice kp kl kc, .int .i64 torn, .int .i64 cut] 46)).heap.size ≤ g → ∀ b, (pv = .pointer (some ⟨b, 0, none⟩) ∨ qv = .pointer (some ⟨b, 0, none⟩)) → b ≠ g) := fun g hg b hb => by
      cases o with
      | none => obtain ⟨rfl, rfl⟩ := W; rcases hb with hb | hb <;> cases hb
      | some k =>
        obtain ⟨pb, qb, rfl, rfl, P, Q, _⟩ := W
        have p1 := P.lt
        have p2 := Q.lt
        simp only [Value.pointer.injEq, Option.some.injEq, Addr.mk.injEq, and_true] at hb
        omega
    clear h T X O hz hs oz os on np nq hm hm5 W hr hl5 hl' hxv hb' hE1
    generalize (d.wr n b').syErr = E2 at *
    generalize (d.wr n b').sy = D2 at *
    generalize d.wrErr n b' = E1 at *
    generalize d.wr n b' = D1 at *
    generalize d.has n = b at *
    go_enter Try.func50, Try.ntmps50
    go_wp2
    go_region_held_law (fun w' => w'.cell? ⟨xb, 0, none⟩ = some (.pointer (some ⟨db, 0, none⟩)) ∧ w'.cell? ⟨w.heap.size, 1, none⟩ = some (.int .i64 n)) (first | exact ⟨x0, o1⟩ | exact ⟨HX3.out.cell 0, HO3.out.cell 1⟩)
      (first
        | (go_at_call 37; go_loud (with_reducible refine C1.out.mono ?_); rintro e w3 ⟨g3, rfl, Y3, B3, L3⟩; have HY3 := hid Y3; have HL3 := hid L3; have HG3 := hid (Blk.lt Y3.blk); have HT3 := hid (HT.out.add B3); have HX3 := hid (HX.out.below B3 HX.out.lt); have HO3 := hid (HO.out.below B3 HO.out.lt); have HW3 := hid (HW.out.add B3); clear B3 Y3 L3)
        | fail)
    all_goals (
      have y2 := HX3.out.cell 2
      have y1 := HO3.out.cell 1
      try go_wp2
      go_region_held_law (fun w' => w'.cell? ⟨xb, 2, none⟩ = some (.pointer (some ⟨rb, 0, none⟩)) ∧ w'.cell? ⟨w.heap.size, 1, none⟩ = some (.int .i64 n)) (first | exact ⟨y2, y1⟩ | exact ⟨HX4.out.cell 2, HO4.out.cell 1⟩)
        (first
          | (go_at_call 67; go_loud (with_reducible refine (C2.out w3 _ HT3.out).mono ?_); rintro e w4 ⟨g4, c4, rfl, Y4, B4⟩; have HY4 := hid (Pg.below HY3.out B4 HG3.out); have v2 := HCV.out w4 g4 c4 Y4; have HT4 := hid (HT3.out.grow B4); have HX4 := hid (HX3.out.below B4 HX3.out.lt); have HO4 := hid (HO3.out.below B4 HO3.out.lt); have HW4 := hid (HW3.out.same B4); clear B4 Y4)
          | fail)
      all_goals (
        have v1 := HCV.out w4 g3 512 HY4.out.blk.byts'
        obtain ⟨z0, z1, z2⟩ := HPc.out w4 g3 HY4.out
        have HB5 := hid z2
        have u5 := HO4.out.cell 5
        clear z2
        go_wp2
        have HZ3 : Hid (g3 ≠ xb ∧ g3 ≠ w.heap.size) := ⟨by have := HX.out.lt; have := HL3.out; omega, by have := HO.out.lt; have := HL3.out; omega⟩
        have HT5 := hid (HT4.out.set (g := g3) (i := K) (Or.inr ⟨HL3.out, HG3.out⟩) (Nat.le_trans HSz.out HL3.out) (.int .u8 ((xv.toNat ^^^ 1 : Nat) : Int)))
        have HX5 := hid (HX4.out.far (x := g3) (i := K) (fun e => HZ3.out.1 e.symm) (.int .u8 ((xv.toNat ^^^ 1 : Nat) : Int)))
        have HO5 := hid (HO4.out.far (x := g3) (i := K) (fun e => HZ3.out.2 e.symm) (.int .u8 ((xv.toNat ^^^ 1 : Nat) : Int)))
        have HW5 := hid (HW4.out.far (g := g3) (i := K) (HFar.out g3 HL3.out) (.int .u8 ((xv.toNat ^^^ 1 : Nat) : Int)))
        have HGZ : Hid (Z g3 ∨ ((w.alloc (.cells #[.int .i64 kind, .int .i64 n, .slice bp bl bc, .slice kp kl kc, .int .i64 torn, .int .i64 cut] 46)).heap.size ≤ g3 ∧ g3 < w3.heap.size)) := Or.inr ⟨HL3.out, HG3.out⟩
        have HZx : Hid (Z xb ∨ ((w.alloc (.cells #[.int .i64 kind, .int .i64 n, .slice bp bl bc, .slice kp kl kc, .int .i64 torn, .int .i64 cut] 46)).heap.size ≤ xb ∧ xb < w3.heap.size)) := Or.inl HZ.out
        have HZo : Hid (Z w.heap.size ∨ ((w.alloc (.cells #[.int .i64 kind, .int .i64 n, .slice bp bl bc, .slice kp kl kc, .int .i64 torn, .int .i64 cut] 46)).heap.size ≤ w.heap.size ∧ w.heap.size < w3.heap.size)) := Or.inl HOZ.out
        generalize hw5 : w4.setCell ⟨g3, K, none⟩ (.int .u8 ((xv.toNat ^^^ 1 : Nat) : Int)) = w5 at *
        have t0 := HX5.out.cell 0
        have t2 := HX5.out.cell 2
        have t1 := HO5.out.cell 1
        have HD5 := hid (HT5.out.grow (Below.refl _ _).drew)
        have HBd := hid (HB5.out.drew)
        have HXd := hid (HX5.out.drew)
        have HOd := hid (HO5.out.drew)
        have HWd := hid (Two.kept (w' := w5.drew) HW5.out ⟨Nat.le_refl _, fun _ _ => rfl⟩)
        go_region_held_law (fun w' => w'.cell? ⟨xb, 0, none⟩ = some (.pointer (some ⟨db, 0, none⟩)) ∧ w'.cell? ⟨xb, 2, none⟩ = some (.pointer (some ⟨rb, 0, none⟩)) ∧ w'.cell? ⟨w.heap.size, 1, none⟩ = some (.int .i64 n)) (first | exact ⟨t0, t2, t1⟩ | exact ⟨HX6.out.cell 0, HX6.out.cell 2, HO6.out.cell 1⟩ | exact ⟨HX7.out.cell 0, HX7.out.cell 2, HO7.out.cell 1⟩ | exact ⟨HX8.out.cell 0, HX8.out.cell 2, HO8.out.cell 1⟩ | exact ⟨HX9.out.cell 0, HX9.out.cell 2, HO9.out.cell 1⟩)
          (first
            | (go_at_call 38; go_loud (with_reducible refine (C3.out _ _ g3 HD5.out HBd.out HGZ.out).mono ?_); rintro e w6 ⟨rfl, T6, K6⟩; have HT6 := hid T6; have HX6 := hid (K6.blk HXd.out (Or.inr HZx.out)); have HO6 := hid (K6.blk HOd.out (Or.inr HZo.out)); have HB6 := hid (K6.blk HBd.out (Or.inr HGZ.out)); have HW6 := hid (HWd.out.kept K6); clear T6 K6)
            | (go_at_call 46; go_loud (with_reducible refine (C4.out _ _ g3 HT6.out HB6.out HGZ.out).mono ?_); rintro e w7 ⟨rfl, T7, K7⟩; have HT7 := hid T7; have HX7 := hid (K7.blk HX6.out (Or.inr HZx.out)); have HO7 := hid (K7.blk HO6.out (Or.inr HZo.out)); have HW7 := hid (HW6.out.kept K7); clear T7 K7)
            | (go_at_call 44; go_loud (with_reducible refine (C5.out _ _ HT7.out).mono ?_); rintro e w8 ⟨rfl, T8, K8⟩; have HT8 := hid T8; have HX8 := hid (K8.blk HX7.out (Or.inr HZx.out)); have HO8 := hid (K8.blk HO7.out (Or.inr HZo.out)); have HW8 := hid (HW7.out.kept K8); clear T8 K8)
            | (go_at_call 47; go_loud (with_reducible refine (C6.out _ _ HT8.out).mono ?_); rintro e w9 ⟨rfl, T9, K9⟩; have HT9 := hid T9; have HX9 := hid (K9.blk HX8.out (Or.inr HZx.out)); have HO9 := hid (K9.blk HO8.out (Or.inr HZo.out)); have HW9 := hid (HW8.out.kept K9); clear T9 K9)
            | fail)
        all_goals go_wp2
        all_goals go_ret
        all_goals exact ⟨rfl, D2, ⟨_, _, _, _, _, _, HT9.out, HX9.out, HZx.out, HS.out, HW9.out.more (Nat.le_succ _) HR.out.1⟩, HR.out.1, by have := HR.out.2; omega⟩))
  · have C1 : Hid (Calls Try.prog 37 #[.pointer (some ⟨db, 0, none⟩), .int .i64 n] (w.alloc (.cells #[.int .i64 kind, .int .i64 n, .slice bp bl bc, .slice kp kl kc, .int .i64 torn, .int .i64 cut] 46)).drew fun e w' => e = .returned (.tuple #[.slice none 0 0, .int .i64 (d.reach n)]) ∧ Below (w.alloc (.cells #[.int .i64 kind, .int .i64 n, .slice bp bl bc, .slice kp kl kc, .int .i64 torn, .int .i64 cut] 46)).heap.size (w.alloc (.cells #[.int .i64 kind, .int .i64 n, .slice bp bl bc, .slice kp kl kc, .int .i64 torn, .int .i64 cut] 46)) w') :=
      ((T.grow (Below.refl _ _).drew).readBadL n hr).mono (fun e w' x => ⟨x.1, by rw [x.2]; exact (Below.refl _ _).drew⟩)
    have C2 : Hid (∀ w5 : World, T2 s w0 w5 db rb d d Z → Calls Try.prog 67 #[.pointer (some ⟨rb, 0, none⟩), .int .i64 n] w5.drew fun e w' => e = .returned (.tuple #[.slice none 0 0, .int .i64 (d.reach n)]) ∧ Below w5.heap.size w5 w') := fun w5 t5 =>
      ((t5.grow (Below.refl _ _).drew).readBadR n hr).mono (fun e w' x => ⟨x.1, by rw [x.2]; exact (Below.refl _ _).drew⟩)
    have hE0 : (d.reach n == 0) = false := by simpa using hr
    have hE1 : ¬ (d.reach n = 0) := hr
    clear h T X O hz hs oz os on np nq hm hm5 W hr
    generalize d.reach n = E at *
    go_enter Try.func50, Try.ntmps50
    go_wp2
    go_region_held_law (fun w' => w'.cell? ⟨xb, 0, none⟩ = some (.pointer (some ⟨db, 0, none⟩)) ∧ w'.cell? ⟨w.heap.size, 1, none⟩ = some (.int .i64 n)) (first | exact ⟨x0, o1⟩ | exact ⟨HX3.out.cell 0, HO3.out.cell 1⟩)
      (first
        | (go_at_call 37; go_loud (with_reducible refine C1.out.mono ?_); rintro e w3 ⟨rfl, B3⟩; have HT3 := hid (HT.out.grow B3); have HX3 := hid (HX.out.below B3 HX.out.lt); have HO3 := hid (HO.out.below B3 HO.out.lt); have HW3 := hid (HW.out.same B3); clear B3)
        | fail)
    all_goals (
      have y2 := HX3.out.cell 2
      have y1 := HO3.out.cell 1
      try go_wp2
      go_region_held_law (fun w' => w'.cell? ⟨xb, 2, none⟩ = some (.pointer (some ⟨rb, 0, none⟩)) ∧ w'.cell? ⟨w.heap.size, 1, none⟩ = some (.int .i64 n)) (first | exact ⟨y2, y1⟩ | exact ⟨HX4.out.cell 2, HO4.out.cell 1⟩)
        (first
          | (go_at_call 67; go_loud (with_reducible refine (C2.out w3 HT3.out).mono ?_); rintro e w4 ⟨rfl, B4⟩; have HT4 := hid (HT3.out.grow B4); have HX4 := hid (HX3.out.below B4 HX3.out.lt); have HO4 := hid (HO3.out.below B4 HO3.out.lt); have HW4 := hid (HW3.out.same B4); clear B4)
          | fail)
      all_goals (
        have v1 : (convert 22 9 (.slice none 0 0)).run Try.prog w4 = .ok (.string ⟨#[]⟩) w4 := conv_byts (w := w4) (p := none) (l := []) 0 (Or.inl rfl)
        go_wp2
        go_ret
        exact ⟨rfl, d, ⟨_, _, _, _, _, _, HT4.out, HX4.out, HZ.out, HS.out, HW4.out.more (Nat.le_succ _) rfl⟩, rfl, Nat.le_add_right _ _⟩))
end Go.Proofs.Ytnecigbncggogaa
namespace Go.Proofs.Ytnecigbncggogaa
open Go.RowKit
set_option linter.unusedVariables false
set_option maxRecDepth 20000
variable {s : Nat} {w0 w : World} {db rb : Nat} {d r : Dk} {Z : Nat → Prop}

set_option maxHeartbeats 2000000 in
theorem act_spoil (xb c : Nat) (h : BW s w0 w xb d c) (hm : d.pend.length < 900000) (n : Int) (bp : Option Addr) (bl bc : Nat) (kp : Option Addr) (kl kc : Nat) (torn cut : Int) :
    Calls Try.prog 16 #[.pointer (some ⟨xb, 0, none⟩), .agg #[.int .i64 5, .int .i64 n, .slice bp bl bc, .slice kp kl kc, .int .i64 torn, .int .i64 cut]] w (actEnd s w0 xb d c) := by
  obtain ⟨db, rb, pv, qv, o, Z, T, X, ⟨hz, hs⟩, W, O, ⟨oz, os, on⟩, np, nq⟩ := h.boxed (ocells 5 n bp bl bc kp kl kc torn cut) 46
  unfold ocells xcells at *
  have o0 := O.cell 0
  have o1 := O.cell 1
  have o2 := O.cell 2
  have o3 := O.cell 3
  have o4 := O.cell 4
  have o5 := O.cell 5
  have C1 := hid (spoil_any xb c (⟨_, _, _, _, _, _, T, X, hz, hs, W⟩ : BW s w0 _ xb d c) hm 5 n bp bl bc kp kl kc torn cut)
  unfold actEnd at *
  clear h T X O hz hs oz os on np nq hm W
  go_enter Try.func16, Try.ntmps16
  go_wp2_with (first
    | (go_at_call 50; go_loud (with_reducible refine C1.out.mono ?_); rintro e w3 ⟨rfl, D3⟩; have HD3 := hid D3; clear D3)
    | fail)
  go_ret
  exact ⟨rfl, HD3.out⟩
theorem BW.more {xb c c' : Nat} (h : BW s w0 w xb d c) (hc : c ≤ c') : BW s w0 w xb d c' := by
  obtain ⟨db, rb, pv, qv, o, Z, T, X, hz, hs, W⟩ := h
  exact ⟨db, rb, pv, qv, o, Z, T, X, hz, hs, W.more hc rfl⟩
def kcells (l : List Bool) : List Value := l.map fun b => Value.bool b
theorem kcells_len (l : List Bool) : (kcells l).length = l.length := List.length_map ..
theorem kcells_at {l : List Bool} {i : Nat} (h : i < l.length) : (kcells l)[i]? = some (.bool l[i]) := by simp [kcells, h]
theorem kcells_one (l : List Bool) : ∀ u ∈ kcells l, u.oneCell' = true := by
  intro u hu
  obtain ⟨b, _, rfl⟩ := List.mem_map.1 hu
  rfl
theorem infoBool : (Try.prog.info? 4).map (fun i => (i.zero, i.size, i.bytes)) = some (some (.bool false), 1, 1) := by kernel_rfl
theorem Bits.src {w : World} {p : Option Addr} {l : List Bool} (h : Bits w p l) (hl : 0 < l.length) : ∃ ad, p = some ad ∧ ∀ j v, (kcells l)[j]? = some v → w.cell? (ad.add j) = some v := by
  rcases h with rfl | ⟨b, off, rfl, hc⟩
  · simp at hl
  · refine ⟨_, rfl, fun j v hv => ?_⟩
    have hj : j < l.length := by have := (List.getElem?_eq_some_iff.1 hv).1; rwa [kcells_len] at this
    rw [Addr.add_mid, hc j hj, ← hv, kcells_at hj]
theorem own_bits {w : World} {base g c n : Nat} {l : List Bool} (o : w.ownsRow base 4 1 (.slice (some ⟨g, 0, none⟩) n c) n (kcells l)) (hn : n = l.length) : Bits w (some ⟨g, 0, none⟩) l := by
  subst hn
  obtain ⟨h1, h2⟩ := o
  rcases h2 with ⟨e, _⟩ | ⟨g', cap, cur, e, hg, hh, hle, hm, hs, ht⟩
  · cases e
  · simp only [Value.slice.injEq, Option.some.injEq, Addr.mk.injEq] at e
    obtain ⟨⟨rfl, _⟩, _, rfl⟩ := e
    refine Or.inr ⟨g, 0, rfl, fun i hi => ?_⟩
    have hu := kcells_at hi
    rw [← ht, List.getElem?_take, if_pos (by omega), Array.getElem?_toList] at hu
    simp [World.cell?, hh, hu]
/-- append of nothing onto a slice of no bools, at a step of a region that draws. -/
theorem st_none0 {ops : Array Oper} {o : Oper} {a : Act} {w : World} {K : Act → World → Prop} {Q : Exit → Act → World → Prop} {E : Prop} (s x : Operand) (hgd : o.guard = none)
    (ho : o.op = .call { callee := .builtin .append, args := #[s, x], argTypes := #[44, 44] }) (g : Nat) (c0 : Nat) (hs : a.eval s = .slice (some ⟨g, 0, none⟩) 0 c0) (p : Option Addr) (c : Nat) (hx : a.eval x = .slice p 0 c)
    (h : K (a.put o.dst (.slice (some ⟨g, 0, none⟩) 0 c0)) w) : if Region.wanted o (yielded ops a.tmps) = true then Oper.wp Try.prog o a w K Q else E := by
  have hw : Region.wanted o (yielded ops a.tmps) = true := by simp [Region.wanted, hgd]
  rw [if_pos hw]
  obtain ⟨i0, hi, hz0, hz1, hz2⟩ := info_parts infoBool
  have hr : (Builtin.append_ #[44, 44] o.type #[.slice (some ⟨g, 0, none⟩) 0 c0, .slice p 0 c]).run Try.prog w = .ok (.slice (some ⟨g, 0, none⟩) 0 c0) w := by
    cases p with
    | none => simp [Builtin.append_, run_underlying Try.underlying44, Builtin.lenOf, Builtin.firstCells, sizeOf, typeInfo, hi, storeCells]
    | some ad =>
      have hl : (loadCells ad 0).run Try.prog w = .ok #[] w := by simpa using run_loadCells_list (P := Try.prog) w ad [] (by simp)
      simp [Builtin.append_, run_underlying Try.underlying44, Builtin.lenOf, Builtin.firstCells, sizeOf, typeInfo, hi, storeCells, hl]
  unfold Oper.wp execOp
  simp only [ho, resolve, invoke, builtin, Sem.run_bind, Sem.run_pure, Result.andThen_ok, List.map_toArray, List.map_cons, List.map_nil, hs, hx, hr]
  exact h
theorem ownK_new (w : World) : (w.alloc (.cells #[] 4)).ownsRow w.heap.size 4 1 (.slice (some ⟨w.heap.size, 0, none⟩) 0 0) 0 (kcells []) := World.ownsRow_made w #[] 0 (Nat.le_refl _) (Nat.zero_le _) (by simp)
/-- Both disks while they are mended. -/
def MendS (s : Nat) (w0 w : World) (xb bx db rb : Nat) (d r : Dk) (xc oc : List Value) : Prop := ∃ Z, T2 s w0 w db rb d r Z ∧ Z xb ∧ Blk w xb xc 39 ∧ Z bx ∧ Blk w bx oc 46
set_option maxHeartbeats 4000000 in
theorem act_open0 (xb c : Nat) (h : BW s w0 w xb d c) (hm : d.pend.length < 900000) (n torn cut : Int) (bp kp : Option Addr) (bl bc kc : Nat) (hbi : ∀ w5 : World, Below s w0 w5 → Bits w5 kp []) (hlt : ([] : List Bool) ≠ [] → ∀ b off, kp = some ⟨b, off, none⟩ → b < s) (hkl : 0 ≤ 140737488351232) (hkc : 0 ≤ kc) :
    Calls Try.prog 16 #[.pointer (some ⟨xb, 0, none⟩), .agg #[.int .i64 4, .int .i64 n, .slice bp bl bc, .slice kp 0 kc, .int .i64 torn, .int .i64 cut]] w (actEnd s w0 xb d c) := by
  obtain ⟨db, rb, pv, qv, o, Z, T, X, ⟨hz, hs⟩, W, O, ⟨oz, os, on⟩, np, nq⟩ := h.boxed [.int .i64 4, .int .i64 n, .slice bp bl bc, .slice kp 0 kc, .int .i64 torn, .int .i64 cut] 46
  have o0 := O.cell 0
  have HT1 := hid T
  have HX1 := hid X
  have HO1 := hid O
  have HZ := hid hz
  have HOZ := hid oz
  have HS := hid hs
  have hm5 : d.pend.length < 1000000 := by omega
  have HM := hid hm5
  have HBt := hid hbi
  have HLt := hid hlt
  have HKL := hid hkl
  have HKC := hid hkc
  have HR : Hid ((d.mended [] torn cut).pages = d.pages ∧ (d.mended [] torn cut).pend.length = 0) := ⟨rfl, rfl⟩
  unfold actEnd
  clear h T X O hz hs oz os on np nq hm hm5 W hbi hlt hkl hkc
  unfold xcells at *
  go_enter Try.func16, Try.ntmps16
  go_wp2
  generalize (w.alloc (.cells #[.int .i64 4, .int .i64 n, .slice bp bl bc, .slice kp 0 kc, .int .i64 torn, .int .i64 cut] 46)) = w1 at *
  generalize w.heap.size = bx at *
  have HMR : Hid (∀ w5 : World, MendS s w0 w5 xb bx db rb (d.mended [] torn cut) d [.pointer (some ⟨db, 0, none⟩), pv, .pointer (some ⟨rb, 0, none⟩), qv] [.int .i64 4, .int .i64 n, .slice bp bl bc, .slice kp 0 kc, .int .i64 torn, .int .i64 cut] → Calls Try.prog 49 #[.pointer (some ⟨rb, 0, none⟩), .slice kp 0 kc, .int .i64 torn, .int .i64 cut] w5.drew fun e w' => e = .returned (.tuple #[]) ∧ MendS s w0 w' xb bx db rb (d.mended [] torn cut) (d.mended [] torn cut) [.pointer (some ⟨db, 0, none⟩), pv, .pointer (some ⟨rb, 0, none⟩), qv] [.int .i64 4, .int .i64 n, .slice bp bl bc, .slice kp 0 kc, .int .i64 torn, .int .i64 cut] ∧ (w'.cell? ⟨xb, 0, none⟩ = some (.pointer (some ⟨db, 0, none⟩)) ∧ w'.cell? ⟨xb, 2, none⟩ = some (.pointer (some ⟨rb, 0, none⟩)) ∧ w'.cell? ⟨bx, 3, none⟩ = some (.slice kp 0 kc) ∧ w'.cell? ⟨bx, 4, none⟩ = some (.int .i64 torn) ∧ w'.cell? ⟨bx, 5, none⟩ = some (.int .i64 cut))) := fun w5 M => by
    obtain ⟨Z2, t, z, x, oz, o⟩ := M
    refine ((t.grow (Below.refl _ _).drew).mendR kp [] kc torn cut HM.out (HBt.out _ (t.grow (Below.refl _ _).drew).bel) (fun hem b' off e => Or.inl (HLt.out hem b' off e)) HKC.out).mono ?_
    rintro e w' ⟨he, T', K'⟩
    have x' := K'.blk x.drew (Or.inr z)
    have o' := K'.blk o.drew (Or.inr oz)
    exact ⟨he, ⟨Z2, T', z, x', oz, o'⟩, x'.cell 0, x'.cell 2, o'.cell 3, o'.cell 4, o'.cell 5⟩
  have HOp : Hid (∀ w5 : World, MendS s w0 w5 xb bx db rb (d.mended [] torn cut) (d.mended [] torn cut) [.pointer (some ⟨db, 0, none⟩), pv, .pointer (some ⟨rb, 0, none⟩), qv] [.int .i64 4, .int .i64 n, .slice bp bl bc, .slice kp 0 kc, .int .i64 torn, .int .i64 cut] → Calls Try.prog 13 #[.pointer (some ⟨xb, 0, none⟩)] w5 fun e w' => e = .returned (.bool true) ∧ BW s w0 w' xb (d.mended [] torn cut) 0) := fun w5 M => by
    obtain ⟨Z2, t, z, x, oz, o⟩ := M
    exact opens_any xb pv qv t x z HS.out (by rw [HR.out.2]; decide)
  have HSS : Hid (∀ w5 : World, Blk w5 xb [.pointer (some ⟨db, 0, none⟩), pv, .pointer (some ⟨rb, 0, none⟩), qv] 39 → Blk w5 bx [.int .i64 4, .int .i64 n, .slice bp bl bc, .slice kp 0 kc, .int .i64 torn, .int .i64 cut] 46 → (w5.cell? ⟨xb, 0, none⟩ = some (.pointer (some ⟨db, 0, none⟩)) ∧ w5.cell? ⟨xb, 2, none⟩ = some (.pointer (some ⟨rb, 0, none⟩)) ∧ w5.cell? ⟨bx, 3, none⟩ = some (.slice kp 0 kc) ∧ w5.cell? ⟨bx, 4, none⟩ = some (.int .i64 torn) ∧ w5.cell? ⟨bx, 5, none⟩ = some (.int .i64 cut))) := fun w5 x o => ⟨x.cell 0, x.cell 2, o.cell 3, o.cell 4, o.cell 5⟩
  have HBa : Hid (Below w1.heap.size w1 (w1.drew.alloc (.cells #[] 4))) := (((Below.refl _ w1).drew).alloc (w := w1.drew) (Nat.le_refl _) _ : Below w1.heap.size w1 (w1.drew.alloc (.cells #[] 4)))
  have HXc : Hid (∀ w5 : World, Below w1.heap.size w1 w5 → Blk w5 xb [.pointer (some ⟨db, 0, none⟩), pv, .pointer (some ⟨rb, 0, none⟩), qv] 39 ∧ Blk w5 bx [.int .i64 4, .int .i64 n, .slice bp bl bc, .slice kp 0 kc, .int .i64 torn, .int .i64 cut] 46) := fun w5 B => ⟨HX1.out.below B HX1.out.lt, HO1.out.below B HO1.out.lt⟩
  have HSa := hid (HSS.out w1 HX1.out HO1.out)
  have HSb := hid (HSS.out w1.drew HX1.out HO1.out)
  have HSc := hid (HSS.out _ (HXc.out _ HBa.out).1 (HXc.out _ HBa.out).2)
  have HML : Hid (Calls Try.prog 28 #[.pointer (some ⟨db, 0, none⟩), .slice (some ⟨w1.heap.size, 0, none⟩) 0 0, .int .i64 torn, .int .i64 cut] (w1.alloc (.cells #[] 4)).drew fun e w' => e = .returned (.tuple #[]) ∧ MendS s w0 w' xb bx db rb (d.mended [] torn cut) d [.pointer (some ⟨db, 0, none⟩), pv, .pointer (some ⟨rb, 0, none⟩), qv] [.int .i64 4, .int .i64 n, .slice bp bl bc, .slice kp 0 kc, .int .i64 torn, .int .i64 cut] ∧ (w'.cell? ⟨xb, 0, none⟩ = some (.pointer (some ⟨db, 0, none⟩)) ∧ w'.cell? ⟨xb, 2, none⟩ = some (.pointer (some ⟨rb, 0, none⟩)) ∧ w'.cell? ⟨bx, 3, none⟩ = some (.slice kp 0 kc) ∧ w'.cell? ⟨bx, 4, none⟩ = some (.int .i64 torn) ∧ w'.cell? ⟨bx, 5, none⟩ = some (.int .i64 cut))) := by
    have HBa : Hid (Below w1.heap.size w1 (w1.alloc (.cells #[] 4)).drew) := ((Below.refl _ _).alloc (Nat.le_refl _) _).drew
    refine ((HT1.out.grow HBa.out).mendL (some ⟨w1.heap.size, 0, none⟩) [] 0 torn cut HM.out (Or.inl rfl) (fun q => absurd rfl q)).mono ?_
    rintro e w6 ⟨he, T6, K6⟩
    have x6 := K6.blk (HXc.out _ HBa.out).1 (Or.inr HZ.out)
    have o6 := K6.blk (HXc.out _ HBa.out).2 (Or.inr HOZ.out)
    exact ⟨he, ⟨Z, T6, HZ.out, x6, HOZ.out, o6⟩, HSS.out w6 x6 o6⟩
  clear HXc HBa HBt HLt HKL HKC HX1 HO1 HT1
  go_region_held_law (fun w' => (w'.cell? ⟨xb, 0, none⟩ = some (.pointer (some ⟨db, 0, none⟩)) ∧ w'.cell? ⟨xb, 2, none⟩ = some (.pointer (some ⟨rb, 0, none⟩)) ∧ w'.cell? ⟨bx, 3, none⟩ = some (.slice kp 0 kc) ∧ w'.cell? ⟨bx, 4, none⟩ = some (.int .i64 torn) ∧ w'.cell? ⟨bx, 5, none⟩ = some (.int .i64 cut))) (first | exact HSa.out | exact HSb.out | exact HSc.out | exact HS6.out)
    (first
      | (refine st_none0 _ _ rfl rfl _ _ rfl _ _ rfl ?_)
      | (go_at_call 28; go_loud ((with_reducible refine HML.out.mono ?_); rintro e w6 ⟨rfl, M6, s6⟩; have HS6 := hid s6; have HR6 := hid (HMR.out w6 M6); clear M6 s6 HML))
      | fail)
  all_goals (
    try go_wp2
    go_region_held_law (fun w' => (w'.cell? ⟨xb, 0, none⟩ = some (.pointer (some ⟨db, 0, none⟩)) ∧ w'.cell? ⟨xb, 2, none⟩ = some (.pointer (some ⟨rb, 0, none⟩)) ∧ w'.cell? ⟨bx, 3, none⟩ = some (.slice kp 0 kc) ∧ w'.cell? ⟨bx, 4, none⟩ = some (.int .i64 torn) ∧ w'.cell? ⟨bx, 5, none⟩ = some (.int .i64 cut))) (first | exact HS6.out | exact HS7.out)
      (first
        | (go_at_call 49; go_loud ((with_reducible refine HR6.out.mono ?_); rintro e w7 ⟨rfl, M7, s7⟩; have HS7 := hid s7; have HP7 := hid (HOp.out w7 M7); clear M7 s7 HR6))
        | fail)
    all_goals (
      go_wp2_with (first
        | (go_at_call 13; go_loud (with_reducible refine HP7.out.mono ?_); rintro e w8 ⟨rfl, D8⟩; have HD8 := hid D8; clear D8)
        | fail)
      go_ret
      exact ⟨rfl, _, HD8.out.more (Nat.zero_le _), HR.out.1, by rw [HR.out.2]; exact Nat.zero_le _⟩))
set_option maxHeartbeats 4000000 in
theorem act_open1 (xb c : Nat) (h : BW s w0 w xb d c) (hm : d.pend.length < 900000) (n torn cut : Int) (bp kp : Option Addr) (bl bc kc : Nat) (keep : List Bool) (hem : keep ≠ []) (hbi : ∀ w5 : World, Below s w0 w5 → Bits w5 kp keep) (hlt : keep ≠ [] → ∀ b off, kp = some ⟨b, off, none⟩ → b < s) (hkl : keep.length ≤ 140737488351232) (hkc : keep.length ≤ kc) :
    Calls Try.prog 16 #[.pointer (some ⟨xb, 0, none⟩), .agg #[.int .i64 4, .int .i64 n, .slice bp bl bc, .slice kp keep.length kc, .int .i64 torn, .int .i64 cut]] w (actEnd s w0 xb d c) := by
  obtain ⟨db, rb, pv, qv, o, Z, T, X, ⟨hz, hs⟩, W, O, ⟨oz, os, on⟩, np, nq⟩ := h.boxed [.int .i64 4, .int .i64 n, .slice bp bl bc, .slice kp keep.length kc, .int .i64 torn, .int .i64 cut] 46
  have o0 := O.cell 0
  have HT1 := hid T
  have HX1 := hid X
  have HO1 := hid O
  have HZ := hid hz
  have HOZ := hid oz
  have HS := hid hs
  have hm5 : d.pend.length < 1000000 := by omega
  have HM := hid hm5
  have HBt := hid hbi
  have HLt := hid hlt
  have HKL := hid hkl
  have HKC := hid hkc
  have HR : Hid ((d.mended keep torn cut).pages = d.pages ∧ (d.mended keep torn cut).pend.length = 0) := ⟨rfl, rfl⟩
  unfold actEnd
  clear h T X O hz hs oz os on np nq hm hm5 W hbi hlt hkl hkc
  unfold xcells at *
  go_enter Try.func16, Try.ntmps16
  go_wp2
  generalize (w.alloc (.cells #[.int .i64 4, .int .i64 n, .slice bp bl bc, .slice kp keep.length kc, .int .i64 torn, .int .i64 cut] 46)) = w1 at *
  generalize w.heap.size = bx at *
  have HMR : Hid (∀ w5 : World, MendS s w0 w5 xb bx db rb (d.mended keep torn cut) d [.pointer (some ⟨db, 0, none⟩), pv, .pointer (some ⟨rb, 0, none⟩), qv] [.int .i64 4, .int .i64 n, .slice bp bl bc, .slice kp keep.length kc, .int .i64 torn, .int .i64 cut] → Calls Try.prog 49 #[.pointer (some ⟨rb, 0, none⟩), .slice kp keep.length kc, .int .i64 torn, .int .i64 cut] w5.drew fun e w' => e = .returned (.tuple #[]) ∧ MendS s w0 w' xb bx db rb (d.mended keep torn cut) (d.mended keep torn cut) [.pointer (some ⟨db, 0, none⟩), pv, .pointer (some ⟨rb, 0, none⟩), qv] [.int .i64 4, .int .i64 n, .slice bp bl bc, .slice kp keep.length kc, .int .i64 torn, .int .i64 cut] ∧ (w'.cell? ⟨xb, 0, none⟩ = some (.pointer (some ⟨db, 0, none⟩)) ∧ w'.cell? ⟨xb, 2, none⟩ = some (.pointer (some ⟨rb, 0, none⟩)) ∧ w'.cell? ⟨bx, 3, none⟩ = some (.slice kp keep.length kc) ∧ w'.cell? ⟨bx, 4, none⟩ = some (.int .i64 torn) ∧ w'.cell? ⟨bx, 5, none⟩ = some (.int .i64 cut))) := fun w5 M => by
    obtain ⟨Z2, t, z, x, oz, o⟩ := M
    refine ((t.grow (Below.refl _ _).drew).mendR kp keep kc torn cut HM.out (HBt.out _ (t.grow (Below.refl _ _).drew).bel) (fun hem b' off e => Or.inl (HLt.out hem b' off e)) HKC.out).mono ?_
    rintro e w' ⟨he, T', K'⟩
    have x' := K'.blk x.drew (Or.inr z)
    have o' := K'.blk o.drew (Or.inr oz)
    exact ⟨he, ⟨Z2, T', z, x', oz, o'⟩, x'.cell 0, x'.cell 2, o'.cell 3, o'.cell 4, o'.cell 5⟩
  have HOp : Hid (∀ w5 : World, MendS s w0 w5 xb bx db rb (d.mended keep torn cut) (d.mended keep torn cut) [.pointer (some ⟨db, 0, none⟩), pv, .pointer (some ⟨rb, 0, none⟩), qv] [.int .i64 4, .int .i64 n, .slice bp bl bc, .slice kp keep.length kc, .int .i64 torn, .int .i64 cut] → Calls Try.prog 13 #[.pointer (some ⟨xb, 0, none⟩)] w5 fun e w' => e = .returned (.bool true) ∧ BW s w0 w' xb (d.mended keep torn cut) 0) := fun w5 M => by
    obtain ⟨Z2, t, z, x, oz, o⟩ := M
    exact opens_any xb pv qv t x z HS.out (by rw [HR.out.2]; decide)
  have HSS : Hid (∀ w5 : World, Blk w5 xb [.pointer (some ⟨db, 0, none⟩), pv, .pointer (some ⟨rb, 0, none⟩), qv] 39 → Blk w5 bx [.int .i64 4, .int .i64 n, .slice bp bl bc, .slice kp keep.length kc, .int .i64 torn, .int .i64 cut] 46 → (w5.cell? ⟨xb, 0, none⟩ = some (.pointer (some ⟨db, 0, none⟩)) ∧ w5.cell? ⟨xb, 2, none⟩ = some (.pointer (some ⟨rb, 0, none⟩)) ∧ w5.cell? ⟨bx, 3, none⟩ = some (.slice kp keep.length kc) ∧ w5.cell? ⟨bx, 4, none⟩ = some (.int .i64 torn) ∧ w5.cell? ⟨bx, 5, none⟩ = some (.int .i64 cut))) := fun w5 x o => ⟨x.cell 0, x.cell 2, o.cell 3, o.cell 4, o.cell 5⟩
  have HBa : Hid (Below w1.heap.size w1 (w1.drew.alloc (.cells #[] 4))) := (((Below.refl _ w1).drew).alloc (w := w1.drew) (Nat.le_refl _) _ : Below w1.heap.size w1 (w1.drew.alloc (.cells #[] 4)))
  have HXc : Hid (∀ w5 : World, Below w1.heap.size w1 w5 → Blk w5 xb [.pointer (some ⟨db, 0, none⟩), pv, .pointer (some ⟨rb, 0, none⟩), qv] 39 ∧ Blk w5 bx [.int .i64 4, .int .i64 n, .slice bp bl bc, .slice kp keep.length kc, .int .i64 torn, .int .i64 cut] 46) := fun w5 B => ⟨HX1.out.below B HX1.out.lt, HO1.out.below B HO1.out.lt⟩
  have HSa := hid (HSS.out w1 HX1.out HO1.out)
  have HSb := hid (HSS.out w1.drew HX1.out HO1.out)
  have HSc := hid (HSS.out _ (HXc.out _ HBa.out).1 (HXc.out _ HBa.out).2)
  have hk0 : 0 < keep.length := List.length_pos_iff.2 hem
  obtain ⟨i0, hi, hz0, hz1, hz2⟩ := info_parts infoBool
  obtain ⟨ad, had, hsrc⟩ := Bits.src (HBt.out _ (HT1.out.grow HBa.out).bel) hk0
  have HO4 : Hid ((w1.drew.alloc (.cells #[] 4)).ownsRow w1.heap.size 4 1 (.slice (some ⟨w1.heap.size, 0, none⟩) 0 0) 0 (kcells [])) := ownK_new w1.drew
  have HF5 : Hid (∀ (g5 c5 : Nat) (w5 : World), w5.ownsRow w1.heap.size 4 1 (.slice (some ⟨g5, 0, none⟩) (0 + keep.length) c5) (0 + keep.length) (kcells [] ++ kcells keep) → (w1.drew.alloc (.cells #[] 4)).grownBy w5 (some w1.heap.size) → (w5.cell? ⟨xb, 0, none⟩ = some (.pointer (some ⟨db, 0, none⟩)) ∧ w5.cell? ⟨xb, 2, none⟩ = some (.pointer (some ⟨rb, 0, none⟩)) ∧ w5.cell? ⟨bx, 3, none⟩ = some (.slice kp keep.length kc) ∧ w5.cell? ⟨bx, 4, none⟩ = some (.int .i64 torn) ∧ w5.cell? ⟨bx, 5, none⟩ = some (.int .i64 cut)) ∧
      Hid (Calls Try.prog 28 #[.pointer (some ⟨db, 0, none⟩), .slice (some ⟨g5, 0, none⟩) keep.length c5, .int .i64 torn, .int .i64 cut] w5 fun e w' => e = .returned (.tuple #[]) ∧ MendS s w0 w' xb bx db rb (d.mended keep torn cut) d [.pointer (some ⟨db, 0, none⟩), pv, .pointer (some ⟨rb, 0, none⟩), qv] [.int .i64 4, .int .i64 n, .slice bp bl bc, .slice kp keep.length kc, .int .i64 torn, .int .i64 cut] ∧ (w'.cell? ⟨xb, 0, none⟩ = some (.pointer (some ⟨db, 0, none⟩)) ∧ w'.cell? ⟨xb, 2, none⟩ = some (.pointer (some ⟨rb, 0, none⟩)) ∧ w'.cell? ⟨bx, 3, none⟩ = some (.slice kp keep.length kc) ∧ w'.cell? ⟨bx, 4, none⟩ = some (.int .i64 torn) ∧ w'.cell? ⟨bx, 5, none⟩ = some (.int .i64 cut)))) := by
    intro g5 c5 w5 O5 G5
    rw [Nat.zero_add] at O5
    have B5 : Below w1.heap.size w1 w5 := below_own (v := .slice (some ⟨w1.heap.size, 0, none⟩) 0 0) HBa.out G5 (by simp) (fun k hk => by simp only [Value.ownBlock, Option.some.injEq] at hk; omega)
    have X5 := HXc.out w5 B5
    have T5 := HT1.out.add B5
    refine ⟨HSS.out w5 X5.1 X5.2, hid ?_⟩
    have L5 := World.ownsRow.lt O5 g5 rfl
    refine (T5.mendL (some ⟨g5, 0, none⟩) keep c5 torn cut HM.out (own_bits O5 rfl) (fun _ b' off e => ?_)).mono ?_
    · simp only [Option.some.injEq, Addr.mk.injEq] at e
      rw [← e.1]
      exact Or.inr (Or.inr L5)
    · rintro e w6 ⟨he, T6, K6⟩
      have x6 := K6.blk X5.1 (Or.inr (Or.inl HZ.out))
      have o6 := K6.blk X5.2 (Or.inr (Or.inl HOZ.out))
      exact ⟨he, ⟨_, T6, Or.inl HZ.out, x6, Or.inl HOZ.out, o6⟩, HSS.out w6 x6 o6⟩
  have HA5 : Hid (0 + keep.length ≤ maxLen) := by have := HKL.out; show _ ≤ _; unfold maxLen; omega
  have HA6 : Hid ((0 + keep.length) * 1 ≤ 140737488355328) := by have := HKL.out; show _ ≤ _; omega
  have HLK : Hid ((kcells keep).length = keep.length * 1) := by show _ = _; rw [kcells_len, Nat.mul_one]
  have HSrc := hid hsrc
  have HK0 := hid hk0
  subst had
  clear HX1 HO1 hem hk0 HXc HBt HLt HSS HKL HKC hsrc HT1 HBa
  go_region_held_law (fun w' => (w'.cell? ⟨xb, 0, none⟩ = some (.pointer (some ⟨db, 0, none⟩)) ∧ w'.cell? ⟨xb, 2, none⟩ = some (.pointer (some ⟨rb, 0, none⟩)) ∧ w'.cell? ⟨bx, 3, none⟩ = some (.slice (some ad) keep.length kc) ∧ w'.cell? ⟨bx, 4, none⟩ = some (.int .i64 torn) ∧ w'.cell? ⟨bx, 5, none⟩ = some (.int .i64 cut))) (first | exact HSa.out | exact HSb.out | exact HSc.out | exact HS5.out | exact HS6.out)
    (first
      | (go_loud (refine step_append_lies _ rfl _ _ 44 rfl w1.heap.size 4 i0 _ 1 1 Try.underlying44 hi hz0 hz1 hz2 rfl (by decide) _ 0 (kcells []) rfl HO4.out ad keep.length kc (kcells keep) rfl HLK.out HSrc.out (kcells_one keep) HK0.out HA5.out HA6.out (by simp) _ rfl ?_; intro g5 c5 w5 O5 G5 A5 L5; have hf5 := HF5.out g5 c5 w5 O5 G5; obtain ⟨s5, HM5⟩ := hf5; have HS5 := hid s5; clear O5 G5 A5 L5 s5; rw [Nat.zero_add]))
      | (go_at_call 28; go_loud ((with_reducible refine HM5.out.mono ?_); rintro e w6 ⟨rfl, M6, s6⟩; have HS6 := hid s6; have HR6 := hid (HMR.out w6 M6); clear M6 s6 HM5))
      | fail)
  all_goals (
    try go_wp2
    go_region_held_law (fun w' => (w'.cell? ⟨xb, 0, none⟩ = some (.pointer (some ⟨db, 0, none⟩)) ∧ w'.cell? ⟨xb, 2, none⟩ = some (.pointer (some ⟨rb, 0, none⟩)) ∧ w'.cell? ⟨bx, 3, none⟩ = some (.slice (some ad) keep.length kc) ∧ w'.cell? ⟨bx, 4, none⟩ = some (.int .i64 torn) ∧ w'.cell? ⟨bx, 5, none⟩ = some (.int .i64 cut))) (first | exact HS6.out | exact HS7.out)
      (first
        | (go_at_call 49; go_loud ((with_reducible refine HR6.out.mono ?_); rintro e w7 ⟨rfl, M7, s7⟩; have HS7 := hid s7; have HP7 := hid (HOp.out w7 M7); clear M7 s7 HR6))
        | fail)
    all_goals (
      go_wp2_with (first
        | (go_at_call 13; go_loud (with_reducible refine HP7.out.mono ?_); rintro e w8 ⟨rfl, D8⟩; have HD8 := hid D8; clear D8)
        | fail)
      go_ret
      exact ⟨rfl, _, HD8.out.more (Nat.zero_le _), HR.out.1, by rw [HR.out.2]; exact Nat.zero_le _⟩))
end Go.Proofs.Ytnecigbncggogaa
