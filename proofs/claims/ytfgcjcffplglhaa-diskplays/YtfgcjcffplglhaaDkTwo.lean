/- The project's disk and the document's beside one another, and beside blocks that neither touches. Condition: fewer than a million writes are pending. -/
import Derived.Test.YtfgcjcffplglhaaDkRefMend
namespace Go.Proofs.Ytfgcjcffplglhaa
open Go.RowKit
set_option linter.unusedVariables false
set_option maxRecDepth 20000

/-- Two disks, all of whose blocks are new, apart from one another and from the blocks Z. -/
structure T2 (s : Nat) (w0 w : World) (db rb : Nat) (d r : Dk) (Z : Nat → Prop) : Prop where
  bel : Below s w0 w
  size : s ≤ w.heap.size
  lt : ∀ k, Z k → k < w.heap.size
  ex : ∃ F G : Nat → Prop, PD w db F d ∧ RD w rb G r ∧ (∀ k, F k → ¬ G k) ∧ (∀ k, F k → s ≤ k ∧ k < w.heap.size ∧ ¬ Z k) ∧ (∀ k, G k → s ≤ k ∧ k < w.heap.size ∧ ¬ Z k)
variable {s : Nat} {w0 w : World} {db rb : Nat} {d r : Dk} {Z : Nat → Prop}
theorem T2.okk (h : T2 s w0 w db rb d r Z) : d.ok := by obtain ⟨F, G, P, _⟩ := h.ex; exact P.okk
theorem T2.okr (h : T2 s w0 w db rb d r Z) : r.ok := by obtain ⟨F, G, _, R, _⟩ := h.ex; exact R.okk
theorem kept_of {s : Nat} {w w' : World} {Z F : Nat → Prop} (hs : s ≤ w.heap.size) (hz : ∀ k, Z k → k < w.heap.size) (hF : ∀ k, F k → s ≤ k ∧ k < w.heap.size ∧ ¬ Z k) (C : Chg F w w') : Kept (old s Z) w w' := by
  refine ⟨C.size, fun k hk => C.block k ?_ ?_⟩
  · rcases hk with hk | hk
    · omega
    · exact hz k hk
  · intro f
    have := hF k f
    rcases hk with hk | hk
    · omega
    · exact this.2.2 hk
theorem more_ok {s : Nat} {w w' : World} {Z F : Nat → Prop} (hs : s ≤ w.heap.size) (hz : ∀ k, Z k → k < w.heap.size) (hF : ∀ k, F k → s ≤ k ∧ k < w.heap.size ∧ ¬ Z k) (hw : w.heap.size ≤ w'.heap.size) : ∀ k, more F w w' k → s ≤ k ∧ k < w'.heap.size ∧ ¬ Z k := by
  intro k hk
  rcases hk with hk | hk
  · have := hF k hk
    exact ⟨this.1, by omega, this.2.2⟩
  · exact ⟨by omega, hk.2, fun z => by have := hz k z; omega⟩
/-- Behind a step that turned only the project's disk. -/
theorem T2.left {F G : Nat → Prop} (h : T2 s w0 w db rb d r Z) (R : RD w rb G r) (dis : ∀ k, F k → ¬ G k) (hF : ∀ k, F k → s ≤ k ∧ k < w.heap.size ∧ ¬ Z k) (hG : ∀ k, G k → s ≤ k ∧ k < w.heap.size ∧ ¬ Z k)
    {w' : World} {db' : Nat} {d' : Dk} (P : PD w' db' (more F w w') d') (C : Chg F w w') : T2 s w0 w' db' rb d' r Z ∧ Kept (old s Z) w w' := by
  refine ⟨⟨h.bel.trans (C.below (fun k f => (hF k f).1) h.size), Nat.le_trans h.size C.size, fun k hk => Nat.lt_of_lt_of_le (h.lt k hk) C.size, more F w w', G, P, R.chg C (fun k g f => dis k f g), fun k hk g => ?_, more_ok h.size h.lt hF C.size, fun k g => ?_⟩, kept_of h.size h.lt hF C⟩
  · rcases hk with hk | hk
    · exact dis k hk g
    · have := hG k g
      omega
  · have := hG k g
    have := C.size
    exact ⟨by omega, by omega, (hG k g).2.2⟩
/-- .. only the document's. -/
theorem T2.right {F G : Nat → Prop} (h : T2 s w0 w db rb d r Z) (P : PD w db F d) (dis : ∀ k, F k → ¬ G k) (hF : ∀ k, F k → s ≤ k ∧ k < w.heap.size ∧ ¬ Z k) (hG : ∀ k, G k → s ≤ k ∧ k < w.heap.size ∧ ¬ Z k)
    {w' : World} {r' : Dk} (R : RD w' rb (more G w w') r') (C : Chg G w w') : T2 s w0 w' db rb d r' Z ∧ Kept (old s Z) w w' := by
  refine ⟨⟨h.bel.trans (C.below (fun k f => (hG k f).1) h.size), Nat.le_trans h.size C.size, fun k hk => Nat.lt_of_lt_of_le (h.lt k hk) C.size, F, more G w w', P.chg C dis, R, fun k f hk => ?_, fun k f => ?_, more_ok h.size h.lt hG C.size⟩, kept_of h.size h.lt hG C⟩
  · rcases hk with hk | hk
    · exact dis k f hk
    · have := hF k f
      omega
  · have := hF k f
    have := C.size
    exact ⟨by omega, by omega, (hF k f).2.2⟩
/-- Behind a step that made new blocks alone. -/
theorem T2.grow (h : T2 s w0 w db rb d r Z) {w' : World} (B : Below w.heap.size w w') : T2 s w0 w' db rb d r Z := by
  obtain ⟨F, G, P, R, dis, hF, hG⟩ := h.ex
  have hs := B.size
  exact ⟨h.bel.trans (B.mono h.size), Nat.le_trans h.size B.size, fun k hk => Nat.lt_of_lt_of_le (h.lt k hk) B.size, F, G, P.below B, R.below B, dis, fun k f => ⟨(hF k f).1, by have := (hF k f).2.1; omega, (hF k f).2.2⟩, fun k f => ⟨(hG k f).1, by have := (hG k f).2.1; omega, (hG k f).2.2⟩⟩
/-- .. all of which are to be protected. -/
theorem T2.add (h : T2 s w0 w db rb d r Z) {w' : World} (B : Below w.heap.size w w') : T2 s w0 w' db rb d r (fun k => Z k ∨ (w.heap.size ≤ k ∧ k < w'.heap.size)) := by
  obtain ⟨F, G, P, R, dis, hF, hG⟩ := h.ex
  have hs := B.size
  refine ⟨h.bel.trans (B.mono h.size), Nat.le_trans h.size B.size, fun k hk => ?_, F, G, P.below B, R.below B, dis, fun k f => ⟨(hF k f).1, by have := (hF k f).2.1; omega, fun z => ?_⟩, fun k f => ⟨(hG k f).1, by have := (hG k f).2.1; omega, fun z => ?_⟩⟩
  · rcases hk with hk | hk
    · exact Nat.lt_of_lt_of_le (h.lt k hk) B.size
    · exact hk.2
  · rcases z with z | z
    · exact (hF k f).2.2 z
    · have := (hF k f).2.1; omega
  · rcases z with z | z
    · exact (hG k f).2.2 z
    · have := (hG k f).2.1; omega
theorem T2.less (h : T2 s w0 w db rb d r Z) {Y : Nat → Prop} (hY : ∀ k, Y k → Z k) : T2 s w0 w db rb d r Y := by
  obtain ⟨F, G, P, R, dis, hF, hG⟩ := h.ex
  exact ⟨h.bel, h.size, fun k hk => h.lt k (hY k hk), F, G, P, R, dis, fun k f => ⟨(hF k f).1, (hF k f).2.1, fun y => (hF k f).2.2 (hY k y)⟩, fun k f => ⟨(hG k f).1, (hG k f).2.1, fun y => (hG k f).2.2 (hY k y)⟩⟩
/-- A protected block turned. -/
theorem T2.turn (h : T2 s w0 w db rb d r Z) {w' : World} {g : Nat} (hz : Z g) (hs : s ≤ g) (C : ∀ F : Nat → Prop, F g → Chg F w w') : T2 s w0 w' db rb d r Z := by
  obtain ⟨F, G, P, R, dis, hF, hG⟩ := h.ex
  have c := C (· = g) rfl
  have hw := c.size
  exact ⟨h.bel.trans (c.below (fun k e => by rw [e]; exact hs) h.size), Nat.le_trans h.size c.size, fun k hk => Nat.lt_of_lt_of_le (h.lt k hk) c.size, F, G, P.chg c (fun k f e => (hF k f).2.2 (by rw [e]; exact hz)), R.chg c (fun k f e => (hG k f).2.2 (by rw [e]; exact hz)), dis, fun k f => ⟨(hF k f).1, by have := (hF k f).2.1; omega, (hF k f).2.2⟩, fun k f => ⟨(hG k f).1, by have := (hG k f).2.1; omega, (hG k f).2.2⟩⟩
theorem T2.ne (h : T2 s w0 w db rb d r Z) {g : Nat} (hg : g < s ∨ Z g) : g ≠ db ∧ g ≠ rb := by
  obtain ⟨F, G, P, R, dis, hF, hG⟩ := h.ex
  refine ⟨?_, ?_⟩
  · rintro rfl
    have := hF _ P.mem
    rcases hg with hg | hg
    · omega
    · exact this.2.2 hg
  · rintro rfl
    have := hG _ R.mem
    rcases hg with hg | hg
    · omega
    · exact this.2.2 hg
theorem T2.made {w1 w2 : World} (P : PD w1 db (fun k => w.heap.size ≤ k ∧ k < w1.heap.size) d) (B1 : Below w.heap.size w w1) (R : RD w2 rb (fun k => w1.heap.size ≤ k ∧ k < w2.heap.size) r) (B2 : Below w1.heap.size w1 w2) : T2 w.heap.size w w2 db rb d r (fun _ => False) := by
  have h1 := B1.size
  have h2 := B2.size
  refine ⟨B1.trans (B2.mono h1), Nat.le_trans h1 h2, fun k hk => hk.elim, _, _, P.below B2, R, fun k f g => by omega, fun k f => ⟨f.1, by omega, id⟩, fun k f => ⟨by omega, f.2, id⟩⟩
/-! ### The calls of the project's disk -/
theorem T2.pagesL (h : T2 s w0 w db rb d r Z) : Calls Try.prog 16 #[.pointer (some ⟨db, 0, none⟩)] w fun e w' => e = .returned (.int .i64 (d.pages : Int)) ∧ w' = w := by obtain ⟨F, G, P, _⟩ := h.ex; exact pagesD db _ d w P
theorem T2.downL (h : T2 s w0 w db rb d r Z) : Calls Try.prog 18 #[.pointer (some ⟨db, 0, none⟩)] w fun e w' => e = .returned (.bool d.down) ∧ w' = w := by obtain ⟨F, G, P, _⟩ := h.ex; exact downD db _ d w P
theorem T2.readL (h : T2 s w0 w db rb d r Z) (n : Int) (hr : d.reach n = 0) :
    Calls Try.prog 29 #[.pointer (some ⟨db, 0, none⟩), .int .i64 n] w fun e w' => e = .returned (.tuple #[.slice (some ⟨w.heap.size + 1, 0, none⟩) 512 512, .int .i64 0]) ∧ Pg w' (w.heap.size + 1) (d.has n) ∧ Below w.heap.size w w' := by
  obtain ⟨F, G, P, _⟩ := h.ex
  exact (readD db _ d n w P hr).mono (fun _ _ x => ⟨x.1, x.2.1, x.2.2.1⟩)
theorem T2.readBadL (h : T2 s w0 w db rb d r Z) (n : Int) (hr : d.reach n ≠ 0) :
    Calls Try.prog 29 #[.pointer (some ⟨db, 0, none⟩), .int .i64 n] w fun e w' => e = .returned (.tuple #[.slice none 0 0, .int .i64 (d.reach n)]) ∧ w' = w := by obtain ⟨F, G, P, _⟩ := h.ex; exact readBad db _ d n w P hr
theorem T2.writeL (h : T2 s w0 w db rb d r Z) (n : Int) (sp : Option Addr) (b : List UInt8) (cap : Nat) (hs : Byts w sp b) (hb : ∀ g off, sp = some ⟨g, off, none⟩ → g < s ∨ Z g ∨ g ≠ db) (hm : d.pend.length < 1000000) :
    Calls Try.prog 12 #[.pointer (some ⟨db, 0, none⟩), .int .i64 n, .slice sp b.length cap] w fun e w' => e = .returned (.int .i64 (d.wrErr n b)) ∧ T2 s w0 w' db rb (d.wr n b) r Z ∧ Kept (old s Z) w w' := by
  obtain ⟨F, G, P, R, dis, hF, hG⟩ := h.ex
  refine (writeD db F d n sp b cap w P hs (fun g off e => ?_) hm).mono ?_
  · rcases hb g off e with q | q | q
    · exact (h.ne (Or.inl q)).1
    · exact (h.ne (Or.inr q)).1
    · exact q
  · rintro e w' ⟨he, P', C⟩
    exact ⟨he, h.left R dis hF hG P' C⟩
theorem T2.syncL (h : T2 s w0 w db rb d r Z) (hm : d.pend.length < 1000000) :
    Calls Try.prog 13 #[.pointer (some ⟨db, 0, none⟩)] w fun e w' => e = .returned (.int .i64 d.syErr) ∧ T2 s w0 w' db rb d.sy r Z ∧ Kept (old s Z) w w' := by
  obtain ⟨F, G, P, R, dis, hF, hG⟩ := h.ex
  refine (syncD db F d w P hm).mono ?_
  rintro e w' ⟨he, P', C⟩
  exact ⟨he, h.left R dis hF hG P' C⟩
theorem T2.armL (h : T2 s w0 w db rb d r Z) (n : Int) (hn : n ≤ 9223372036854775807) :
    Calls Try.prog 28 #[.pointer (some ⟨db, 0, none⟩), .int .i64 n] w fun e w' => e = .returned (.tuple #[]) ∧ T2 s w0 w' db rb (d.armed n) r Z ∧ Kept (old s Z) w w' := by
  obtain ⟨F, G, P, R, dis, hF, hG⟩ := h.ex
  refine (armD db F d n w P hn).mono ?_
  rintro e w' ⟨he, P', C, _⟩
  exact ⟨he, h.left R dis hF hG (P'.mono (fun k _ f => Or.inl f)) C⟩
theorem T2.mendL (h : T2 s w0 w db rb d r Z) (kp : Option Addr) (keep : List Bool) (kc : Nat) (torn cut : Int) (hm : d.pend.length < 1000000) (hk : Bits w kp keep) (hkl : keep ≠ [] → ∀ b off, kp = some ⟨b, off, none⟩ → b < s ∨ Z b) :
    Calls Try.prog 14 #[.pointer (some ⟨db, 0, none⟩), .slice kp keep.length kc, .int .i64 torn, .int .i64 cut] w fun e w' => e = .returned (.tuple #[]) ∧ T2 s w0 w' db rb (d.mended keep torn cut) r Z ∧ Kept (old s Z) w w' := by
  obtain ⟨F, G, P, R, dis, hF, hG⟩ := h.ex
  refine (mendD db F d kp keep kc torn cut w P hm hk (fun hem b off e f => ?_)).mono ?_
  · rcases hkl hem b off e with q | q
    · have := hF b f; omega
    · exact (hF b f).2.2 q
  · rintro e w' ⟨he, P', C⟩
    exact ⟨he, h.left R dis hF hG P' C⟩
theorem T2.pendL (h : T2 s w0 w db rb d r Z) (hm : d.pend.length < 1000000) :
    Calls Try.prog 20 #[.pointer (some ⟨db, 0, none⟩)] w fun e w' => (∃ p c, e = .returned (.slice p (d.pend.map (·.1)).length c) ∧ Ints w' p (d.pend.map (·.1))) ∧ Below w.heap.size w w' := by
  obtain ⟨F, G, ⟨lb, nb, pv, P, _⟩, _⟩ := h.ex
  refine (pend_any db lb nb pv d w P hm).mono ?_
  rintro e w' ⟨rfl, b, B, _⟩
  refine ⟨⟨_, d.pend.length, ?_, b.ints⟩, B⟩
  rw [List.length_map]
theorem T2.imageL (h : T2 s w0 w db rb d r Z) :
    Calls Try.prog 22 #[.pointer (some ⟨db, 0, none⟩)] w fun e w' => (∃ p c, e = .returned (.slice p d.img.length c) ∧ Byts w' p d.img) ∧ Below w.heap.size w w' := by
  obtain ⟨F, G, ⟨lb, nb, pv, P, _⟩, _⟩ := h.ex
  refine (image_any db lb nb pv d w P).mono ?_
  rintro e w' ⟨v, rfl, O, B⟩
  obtain ⟨p, c, rfl, hb, _⟩ := O.byts
  exact ⟨⟨p, c, rfl, hb⟩, B⟩
/-- A clone: the disk itself goes on beside it; its blocks are protected. -/
theorem T2.cloneL (h : T2 s w0 w db rb d r Z) (hm : d.pend.length < 1000000) :
    Calls Try.prog 11 #[.pointer (some ⟨db, 0, none⟩)] w fun e w' => e = .returned (.pointer (some ⟨w.heap.size, 0, none⟩)) ∧ T2 s w0 w' db rb d r (fun k => Z k ∨ (w.heap.size ≤ k ∧ k < w'.heap.size)) ∧ PD w' w.heap.size (fun k => w.heap.size ≤ k ∧ k < w'.heap.size) d := by
  obtain ⟨F, G, ⟨lb, nb, pv, P, _⟩, _⟩ := h.ex
  refine (clone_any db lb nb pv d w P hm).mono ?_
  rintro e w' ⟨lb', nb', pv', rfl, P', B, hn⟩
  exact ⟨rfl, h.add B, ⟨lb', nb', pv', P', fun k hk => ⟨hn k hk, P'.lt hk⟩⟩⟩
/-- The clone in the disk's place. -/
theorem T2.swap {a b cb : Nat} {d' : Dk} (h : T2 s w0 w db rb d' r (fun k => Z k ∨ (a ≤ k ∧ k < b))) (P : PD w cb (fun k => a ≤ k ∧ k < b) d) (hs : s ≤ a) (hz : ∀ k, Z k → k < a) : T2 s w0 w cb rb d r Z := by
  obtain ⟨F, G, _, R, dis, hF, hG⟩ := h.ex
  refine ⟨h.bel, h.size, fun k hk => h.lt k (Or.inl hk), fun k => (a ≤ k ∧ k < b) ∧ k < w.heap.size, G, P.mono (fun k hk f => ⟨f, hk⟩), R, fun k f g => (hG k g).2.2 (Or.inr f.1), fun k f => ⟨by omega, f.2, fun z => by have := hz k z; omega⟩, fun k g => ⟨(hG k g).1, (hG k g).2.1, fun z => (hG k g).2.2 (Or.inl z)⟩⟩
/-! ### The calls of the document's -/
theorem T2.pagesR (h : T2 s w0 w db rb d r Z) : Calls Try.prog 17 #[.pointer (some ⟨rb, 0, none⟩)] w fun e w' => e = .returned (.int .i64 (r.pages : Int)) ∧ w' = w := by
  obtain ⟨F, G, _, ⟨lb, pv, rp, R, _⟩, _⟩ := h.ex
  exact rpages_any rb lb pv rp r w R
theorem T2.downR (h : T2 s w0 w db rb d r Z) : w.cell? ⟨rb, 3, none⟩ = some (.bool r.down) := by
  obtain ⟨F, G, _, ⟨lb, pv, rp, R, _⟩, _⟩ := h.ex
  exact R.cells.2.2.2.1
theorem T2.readR (h : T2 s w0 w db rb d r Z) (n : Int) (hr : r.reach n = 0) (hm : r.pend.length < 1000000) :
    Calls Try.prog 38 #[.pointer (some ⟨rb, 0, none⟩), .int .i64 n] w fun e w' => (∃ g c, e = .returned (.tuple #[.slice (some ⟨g, 0, none⟩) 512 c, .int .i64 0]) ∧ Byts w' (some ⟨g, 0, none⟩) (r.has n)) ∧ Below w.heap.size w w' := by
  obtain ⟨F, G, _, ⟨lb, pv, rp, R, _⟩, _⟩ := h.ex
  have hl := R.ok.has n
  refine (rread_ok rb lb pv rp r n w R hr hm).mono ?_
  rintro e w' ⟨v, rfl, O, B⟩
  obtain ⟨g, c, rfl, _⟩ := own_is' O (by omega)
  rw [hl] at O ⊢
  exact ⟨⟨g, c, rfl, own_bts O⟩, B⟩
theorem T2.readBadR (h : T2 s w0 w db rb d r Z) (n : Int) (hr : r.reach n ≠ 0) :
    Calls Try.prog 38 #[.pointer (some ⟨rb, 0, none⟩), .int .i64 n] w fun e w' => e = .returned (.tuple #[.slice none 0 0, .int .i64 (r.reach n)]) ∧ w' = w := by
  obtain ⟨F, G, _, ⟨lb, pv, rp, R, _⟩, _⟩ := h.ex
  exact rread_bad rb lb pv rp r n w R hr
theorem T2.writeR (h : T2 s w0 w db rb d r Z) (n : Int) (sp : Option Addr) (b : List UInt8) (cap : Nat) (hs : Byts w sp b) (hb : ∀ g off, sp = some ⟨g, off, none⟩ → g < s ∨ Z g ∨ g ≠ rb) (hm : r.pend.length < 1000000) :
    Calls Try.prog 39 #[.pointer (some ⟨rb, 0, none⟩), .int .i64 n, .slice sp b.length cap] w fun e w' => e = .returned (.int .i64 (r.wrErr n b)) ∧ T2 s w0 w' db rb d (r.wr n b) Z ∧ Kept (old s Z) w w' := by
  obtain ⟨F, G, P, R, dis, hF, hG⟩ := h.ex
  refine (rwriteD rb G r n sp b cap w R hs (fun g off e => ?_) hm).mono ?_
  · rcases hb g off e with q | q | q
    · exact (h.ne (Or.inl q)).2
    · exact (h.ne (Or.inr q)).2
    · exact q
  · rintro e w' ⟨he, R', C⟩
    exact ⟨he, h.right P dis hF hG R' C⟩
theorem T2.syncR (h : T2 s w0 w db rb d r Z) (hm : r.pend.length < 1000000) :
    Calls Try.prog 40 #[.pointer (some ⟨rb, 0, none⟩)] w fun e w' => e = .returned (.int .i64 r.syErr) ∧ T2 s w0 w' db rb d r.sy Z ∧ Kept (old s Z) w w' := by
  obtain ⟨F, G, P, R, dis, hF, hG⟩ := h.ex
  refine (rsyncD rb G r w R hm).mono ?_
  rintro e w' ⟨he, R', C⟩
  exact ⟨he, h.right P dis hF hG (R'.mono (fun k _ f => Or.inl f)) C⟩
theorem T2.armR (h : T2 s w0 w db rb d r Z) (n : Int) (hn : n ≤ 9223372036854775807) :
    Calls Try.prog 41 #[.pointer (some ⟨rb, 0, none⟩), .int .i64 n] w fun e w' => e = .returned (.tuple #[]) ∧ T2 s w0 w' db rb d (r.armed n) Z ∧ Kept (old s Z) w w' := by
  obtain ⟨F, G, P, R, dis, hF, hG⟩ := h.ex
  refine (rarmsD rb G r n w R hn).mono ?_
  rintro e w' ⟨he, R', C⟩
  exact ⟨he, h.right P dis hF hG (R'.mono (fun k _ f => Or.inl f)) C⟩
theorem T2.mendR (h : T2 s w0 w db rb d r Z) (kp : Option Addr) (keep : List Bool) (kc : Nat) (torn cut : Int) (hm : r.pend.length < 1000000) (hk : Bits w kp keep) (hkl : keep ≠ [] → ∀ b off, kp = some ⟨b, off, none⟩ → b < s ∨ Z b) (hkc : keep.length ≤ kc) :
    Calls Try.prog 42 #[.pointer (some ⟨rb, 0, none⟩), .slice kp keep.length kc, .int .i64 torn, .int .i64 cut] w fun e w' => e = .returned (.tuple #[]) ∧ T2 s w0 w' db rb d (r.mended keep torn cut) Z ∧ Kept (old s Z) w w' := by
  obtain ⟨F, G, P, R, dis, hF, hG⟩ := h.ex
  refine (rmendD rb G r kp keep kc torn cut w R hm hk (fun hem b off e f => ?_) hkc).mono ?_
  · rcases hkl hem b off e with q | q
    · have := hG b f; omega
    · exact (hG b f).2.2 q
  · rintro e w' ⟨he, R', C⟩
    exact ⟨he, h.right P dis hF hG (R'.mono (fun k _ f => Or.inl f)) C⟩
theorem T2.pendR (h : T2 s w0 w db rb d r Z) (hm : r.pend.length < 1000000) :
    Calls Try.prog 21 #[.pointer (some ⟨rb, 0, none⟩)] w fun e w' => (∃ p c, e = .returned (.slice p (r.pend.map (·.1)).length c) ∧ Ints w' p (r.pend.map (·.1))) ∧ Below w.heap.size w w' := by
  obtain ⟨F, G, _, ⟨lb, pv, rp, R, _⟩, _⟩ := h.ex
  refine (rpend_any rb lb pv rp r w R hm).mono ?_
  rintro e w' ⟨v, rfl, O, B⟩
  obtain ⟨p, c, rfl, hi⟩ := O.ints
  exact ⟨⟨p, c, rfl, hi⟩, B⟩
theorem T2.imageR (h : T2 s w0 w db rb d r Z) (hm : r.pend.length < 1000000) :
    Calls Try.prog 23 #[.pointer (some ⟨rb, 0, none⟩)] w fun e w' => (∃ p c, e = .returned (.slice p r.img.length c) ∧ Byts w' p r.img) ∧ Below w.heap.size w w' := by
  obtain ⟨F, G, _, ⟨lb, pv, rp, R, _⟩, _⟩ := h.ex
  refine (rimage_any rb lb pv rp r w R hm).mono ?_
  rintro e w' ⟨v, rfl, O, B⟩
  obtain ⟨p, c, rfl, hb, _⟩ := O.byts
  exact ⟨⟨p, c, rfl, hb⟩, B⟩
end Go.Proofs.Ytfgcjcffplglhaa
