/- The draws of instructions (source.ins, rare, anyIns): what they return. -/
import Derived.Test.YtihhpgklpichgabSrc
import Derived.Test.YtihhpgklpichgabC2u
import Derived.Deep.CutBlock
import Derived.IntWalk
set_option linter.unusedSimpArgs false
set_option linter.unusedVariables false
namespace Go.Proofs.Ytihhpgklpichgab.Src
open Go.RowKit Pl Ft Mm C2

theorem Src.drew {sb : Nat} {a : Option Addr} {len cap : Nat} {zs : List Int} {k : Int} {w : World} (h : Src w sb a len cap zs k) : Src w.drew sb a len cap zs k :=
  ⟨h.code, h.at_, h.free, h.lo, ⟨h.bytes.small, h.bytes.cells, h.bytes.range⟩, h.apart, h.here⟩
theorem Src.on {sb : Nat} {a : Option Addr} {len cap : Nat} {zs : List Int} {k : Int} {w w' : World} (h : Src w sb a len cap zs k) (hb : Below w.heap.size w w') : Src w' sb a len cap zs k := by
  refine ⟨?_, ?_, ?_, h.lo, ⟨h.bytes.small, ?_, h.bytes.range⟩, h.apart, Nat.lt_of_lt_of_le h.here hb.size⟩
  · rw [hb.cell (p := ⟨sb, 0, none⟩) h.here]; exact h.code
  · rw [hb.cell (p := ⟨sb, 1, none⟩) h.here]; exact h.at_
  · rw [hb.frozen (p := ⟨sb, 1, none⟩) h.here]; exact h.free
  · rcases h.bytes.cells with h0 | ⟨b, o, e, hlt, hc⟩
    · exact .inl h0
    · refine .inr ⟨b, o, e, Nat.lt_of_lt_of_le hlt hb.size, fun i hi => ?_⟩
      rw [hb.cell (p := ⟨b, o + i, none⟩) hlt]
      exact hc i hi
theorem Src.fresh {sb : Nat} {a : Option Addr} {len cap : Nat} {zs : List Int} {k : Int} {w : World} (h : Src w sb a len cap zs k) {g : Nat} (hg : sb < g) (o : Nat) (u : Value) : Src (w.setCell ⟨g, o, none⟩ u) sb a len cap zs k := by
  have hne : sb ≠ g := by omega
  refine ⟨?_, ?_, ?_, h.lo, ⟨h.bytes.small, ?_, h.bytes.range⟩, h.apart, by simpa using h.here⟩
  · rw [World.cell?_of_block (w := w) (Below.heap_setCell w ⟨g, o, none⟩ u sb hne)]; exact h.code
  · rw [World.cell?_of_block (w := w) (Below.heap_setCell w ⟨g, o, none⟩ u sb hne)]; exact h.at_
  · rw [World.frozen?_of_block (w := w) (Below.heap_setCell w ⟨g, o, none⟩ u sb hne)]; exact h.free
  · rcases h.bytes.cells with h0 | ⟨b, o', e, hlt, hc⟩
    · exact .inl h0
    · by_cases hl : len = 0
      · exact .inl hl
      · have hb := h.apart b o' e (by omega)
        refine .inr ⟨b, o', e, by simpa using hlt, fun i hi => ?_⟩
        rw [World.cell?_of_block (w := w) (Below.heap_setCell w ⟨g, o, none⟩ u b (by simp; omega))]
        exact hc i hi
theorem Moved.on {sb : Nat} {a w w' : World} (h : Moved sb a w) (hb : Below w.heap.size w w') : Moved sb a w' :=
  ⟨hb.os.trans h.os, hb.tape.trans h.tape, hb.output.trans h.output, Nat.le_trans h.size hb.size, fun k hk hn => (hb.block k (Nat.lt_of_lt_of_le hk h.size)).trans (h.block k hk hn)⟩
theorem Moved.fresh {sb : Nat} {a w : World} (h : Moved sb a w) {g : Nat} (hg : a.heap.size ≤ g) (o : Nat) (u : Value) : Moved sb a (w.setCell ⟨g, o, none⟩ u) :=
  ⟨h.os, h.tape, h.output, by simpa [World.setCell] using h.size, fun k hk hn => (Below.heap_setCell _ _ _ _ (show k ≠ g by omega)).trans (h.block k hk hn)⟩
theorem _root_.Go.Proofs.Ytihhpgklpichgab.Mm.Row.moved {w w' : World} {g sb : Nat} {t : TypeId} {cs : Array Value} (h : Row w g t cs) (m : Moved sb w w') (hn : g ≠ sb) : Row w' g t cs := (m.block g h.lt hn).trans h
theorem rare_c (sb : Nat) (a : Option Addr) (len cap : Nat) (zs : List Int) (k : Int) (w : World) (h : Src w sb a len cap zs k) (hk : k ≤ 999999980) :
    Calls Try.prog 109 #[.pointer (some ⟨sb, 0, none⟩)] w fun e w' => ∃ (b : Bool) (k' : Int), e = .returned (.bool b) ∧ k ≤ k' ∧ k' ≤ k + 2 ∧ Src w' sb a len cap zs k' ∧ Moved sb w w' := by
  have H := hid h
  clear h
  go_enter Try.func109, Try.ntmps109
  go_wp2_with fail
  refine (pick_c 24 sb a len cap zs k w H.out (by omega) (by omega)).mono ?_
  rintro e w1 ⟨v, k', rfl, ⟨hv1, hv2⟩, hk1, hk2, s1, m1⟩
  have S1 := hid s1
  clear s1
  go_wp2_with fail
  go_ret
  exact ⟨_, _, rfl, hk1, hk2, S1.out, m1⟩
theorem sform_bd : ∀ k, k ≤ 30 → (let f := stab.getD k .none; 0 ≤ f.a ∧ f.a ≤ 3 ∧ 0 ≤ f.b ∧ f.b ≤ 8 ∧ -128 ≤ f.low ∧ f.low ≤ 0 ∧ 0 ≤ f.high ∧ f.high ≤ 65535) := by decide +kernel
/-- An instruction's numbers are small. -/
structure Small (i : IIns) : Prop where
  o0 : -1000000 ≤ i.op
  o1 : i.op ≤ 1000000
  a0 : -1000000 ≤ i.a
  a1 : i.a ≤ 1000000
  b0 : -1000000 ≤ i.b
  b1 : i.b ≤ 1000000
  n0 : -1000000 ≤ i.n
  n1 : i.n ≤ 1000000
/-- The source has returned an instruction, having taken d bytes at most. -/
def GotIns (P : IIns → Prop) (sb : Nat) (a : Option Addr) (len cap : Nat) (zs : List Int) (k d : Int) (w : World) (e : Ending) (w' : World) : Prop :=
  ∃ (i : IIns) (k' : Int), e = .returned i.val ∧ (Small i ∧ P i) ∧ k ≤ k' ∧ k' ≤ k + d ∧ Src w' sb a len cap zs k' ∧ Moved sb w w'
theorem mcell {sb : Nat} {w w' : World} (m : Moved sb w w') : (∀ b o, b < w.heap.size → b ≠ sb → w'.cell? ⟨b, o, none⟩ = w.cell? ⟨b, o, none⟩) ∧ (∀ b o, b < w.heap.size → b ≠ sb → w'.frozen? ⟨b, o, none⟩ = w.frozen? ⟨b, o, none⟩) :=
  ⟨fun _ _ h hn => m.cell h hn, fun _ _ h hn => m.frozen h hn⟩
/-- The instruction with its first three numbers lies in block g. -/
structure Begun (p : Int) (W0 : World) (sb : Nat) (a : Option Addr) (len cap : Nat) (zs : List Int) (k : Int) (g : Nat) (va vb : Int) (wx : World) : Prop where
  lt : W0.heap.size ≤ g
  row : Row wx g 24 #[.int .i64 p, .int .i64 va, .int .i64 vb, .int .i64 0]
  src : ∃ k', k ≤ k' ∧ k' ≤ k + 4 ∧ Src wx sb a len cap zs k'
  mov : Moved sb W0 wx
/-- The instruction lies in block g; the source has gone on. -/
structure InsMid (N : Int → Prop) (p va vb vn k k3 : Int) (sb : Nat) (a : Option Addr) (len cap : Nat) (zs : List Int) (w : World) (g : Nat) (wx : World) : Prop where
  row : Row wx g 24 #[.int .i64 p, .int .i64 va, .int .i64 vb, .int .i64 vn]
  out : Row wx w.heap.size 24 #[.int .i64 0, .int .i64 0, .int .i64 0, .int .i64 0]
  n0 : -1000 ≤ vn
  n1 : vn ≤ 100000
  ok : N vn
  src : Src wx sb a len cap zs k3
  k0 : k ≤ k3
  k1 : k3 ≤ k + 18
  mov : Moved sb w wx
theorem InsMid.put {N : Int → Prop} {p va vb x vn k k3 : Int} {sb : Nat} {a : Option Addr} {len cap : Nat} {zs : List Int} {w : World} {g : Nat} {wx : World} (hr : Row wx g 24 #[.int .i64 p, .int .i64 va, .int .i64 vb, .int .i64 x]) (ho : Row wx w.heap.size 24 #[.int .i64 0, .int .i64 0, .int .i64 0, .int .i64 0])
    (n0 : -1000 ≤ vn) (n1 : vn ≤ 100000) (ok : N vn) (hs : Src wx sb a len cap zs k3) (k0 : k ≤ k3) (k1 : k3 ≤ k + 18) (hm : Moved sb w wx) (hsg : sb < g) (hwg : w.heap.size ≤ g) (h6 : w.heap.size ≠ g) : InsMid N p va vb vn k k3 sb a len cap zs w g (wx.setCell ⟨g, 3, none⟩ (.int .i64 vn)) :=
  ⟨hr.set 3 _, ho.far h6 _, n0, n1, ok, hs.fresh hsg _ _, k0, k1, hm.fresh hwg _ _⟩
theorem InsMid.again {N N' : Int → Prop} {p va vb vn vm k k3 : Int} {sb : Nat} {a : Option Addr} {len cap : Nat} {zs : List Int} {w : World} {g : Nat} {wx : World} (h : InsMid N' p va vb vn k k3 sb a len cap zs w g wx) (n0 : -1000 ≤ vm) (n1 : vm ≤ 100000) (ok : N vm) (hsg : sb < g) (hwg : w.heap.size ≤ g) (h6 : w.heap.size ≠ g) : InsMid N p va vb vm k k3 sb a len cap zs w g (wx.setCell ⟨g, 3, none⟩ (.int .i64 vm)) :=
  .put h.row h.out n0 n1 ok h.src h.k0 h.k1 h.mov hsg hwg h6
theorem ins_row {w : World} {g : Nat} {x0 x1 x2 x3 : Value} (h : Row w g 24 #[x0, x1, x2, x3]) (p va vb vn : Int) : Row ((((w.setCell ⟨g, 0, none⟩ (.int .i64 p)).setCell ⟨g, 1, none⟩ (.int .i64 va)).setCell ⟨g, 2, none⟩ (.int .i64 vb)).setCell ⟨g, 3, none⟩ (.int .i64 vn)) g 24 #[.int .i64 p, .int .i64 va, .int .i64 vb, .int .i64 vn] := (((h.set 0 _).set 1 _).set 2 _).set 3 _
theorem Moved.drewed {sb : Nat} {w0 w1 : World} (m : Moved sb w0.drew w1) : Moved sb w0 w1 := (Moved.refl sb w0).drew.trans m
theorem Moved.both {sb : Nat} {W0 x1 x2 : World} (m1 : Moved sb W0.drew x1) (m2 : Moved sb x1 x2) : Moved sb W0 x2 := ((Moved.refl sb W0).drew.trans m1).trans m2
theorem Begun.way1 {p : Int} {W0 : World} {sb : Nat} {a : Option Addr} {len cap : Nat} {zs : List Int} {k : Int} {va vb : Int} {x2 : World} (hz : W0.heap.size ≤ x2.heap.size) {k2 : Int} (s2 : Src x2 sb a len cap zs k2) (h1 : k ≤ k2) (h2 : k2 ≤ k + 4) (m : Moved sb W0 x2) :
    Begun p W0 sb a len cap zs k x2.heap.size va vb (x2.alloc (.cells #[.int .i64 p, .int .i64 va, .int .i64 vb, .int .i64 0] 24)) :=
  ⟨hz, Row.new _ _ _, ⟨k2, h1, h2, s2.alloc _⟩, m.alloc _⟩
/-- Four stores into a block of the call's own. -/
theorem Begun.stores {p : Int} {W0 : World} {sb : Nat} {a : Option Addr} {len cap : Nat} {zs : List Int} {k : Int} {va vb : Int} {x2 : World} {g : Nat} (hg : W0.heap.size ≤ g) (hs : sb < W0.heap.size) (hr : Row x2 g 24 #[.int .i64 0, .int .i64 0, .int .i64 0, .int .i64 0]) {k2 : Int} (s2 : Src x2 sb a len cap zs k2) (h1 : k ≤ k2) (h2 : k2 ≤ k + 4) (m : Moved sb W0 x2) :
    Begun p W0 sb a len cap zs k g va vb ((((x2.setCell ⟨g, 0, none⟩ (.int .i64 p)).setCell ⟨g, 1, none⟩ (.int .i64 va)).setCell ⟨g, 2, none⟩ (.int .i64 vb)).setCell ⟨g, 3, none⟩ (.int .i64 0)) := by
  have hlt : sb < g := by omega
  exact ⟨hg, (((hr.set 0 (.int .i64 p)).set 1 (.int .i64 va)).set 2 (.int .i64 vb)).set 3 (.int .i64 0), ⟨k2, h1, h2, (((s2.fresh hlt _ _).fresh hlt _ _).fresh hlt _ _).fresh hlt _ _⟩, (((m.fresh hg _ _).fresh hg _ _).fresh hg _ _).fresh hg _ _⟩
theorem Begun.way2 {p : Int} {W0 : World} {sb : Nat} {a : Option Addr} {len cap : Nat} {zs : List Int} {k : Int} {va vb : Int} {x1 x2 : World} {g : Nat} (hg : W0.heap.size = g) (hs : sb < W0.heap.size) {k2 : Int} (s2 : Src x2 sb a len cap zs k2) (h1 : k ≤ k2) (h2 : k2 ≤ k + 4)
    (m1 : Moved sb (W0.alloc (.cells #[.int .i64 0, .int .i64 0, .int .i64 0, .int .i64 0] 24)).drew x1) (m2 : Moved sb x1 x2) :
    Begun p W0 sb a len cap zs k g va vb ((((x2.setCell ⟨g, 0, none⟩ (.int .i64 p)).setCell ⟨g, 1, none⟩ (.int .i64 va)).setCell ⟨g, 2, none⟩ (.int .i64 vb)).setCell ⟨g, 3, none⟩ (.int .i64 0)) := by
  subst hg
  have hr : Row (W0.alloc (.cells #[.int .i64 0, .int .i64 0, .int .i64 0, .int .i64 0] 24)).drew W0.heap.size 24 #[.int .i64 0, .int .i64 0, .int .i64 0, .int .i64 0] := Row.new W0 _ _
  exact .stores (Nat.le_refl _) hs ((hr.moved m1 (by omega)).moved m2 (by omega)) s2 h1 h2 ((((Moved.refl sb W0).alloc _).drew.trans m1).trans m2)
theorem Begun.way3 {p : Int} {W0 : World} {sb : Nat} {a : Option Addr} {len cap : Nat} {zs : List Int} {k : Int} {va vb : Int} {x1 x2 : World} {g : Nat} (hg : x1.heap.size = g) (hz : W0.heap.size ≤ x1.heap.size) (hs : sb < W0.heap.size) {k2 : Int} (s2 : Src x2 sb a len cap zs k2) (h1 : k ≤ k2) (h2 : k2 ≤ k + 4)
    (m1 : Moved sb W0.drew x1) (m2 : Moved sb (x1.alloc (.cells #[.int .i64 0, .int .i64 0, .int .i64 0, .int .i64 0] 24)) x2) :
    Begun p W0 sb a len cap zs k g va vb ((((x2.setCell ⟨g, 0, none⟩ (.int .i64 p)).setCell ⟨g, 1, none⟩ (.int .i64 va)).setCell ⟨g, 2, none⟩ (.int .i64 vb)).setCell ⟨g, 3, none⟩ (.int .i64 0)) := by
  subst hg
  have hr : Row (x1.alloc (.cells #[.int .i64 0, .int .i64 0, .int .i64 0, .int .i64 0] 24)) x1.heap.size 24 #[.int .i64 0, .int .i64 0, .int .i64 0, .int .i64 0] := Row.new x1 _ _
  exact .stores hz hs (hr.moved m2 (by omega)) s2 h1 h2 ((((Moved.refl sb W0).drew.trans m1).alloc _).trans m2)
/-- N of an instruction that is drawn near a place. -/
def NOk (f : SForm) (at_ vn : Int) : Prop := at_ ≤ 1900 → f.low ≤ vn ∧ vn ≤ f.high
theorem jump_form : ∀ p, p ≤ 30 → (p = 27 ∨ p = 28) → (stab.getD p .none).low = 0 ∧ (stab.getD p .none).high = 1999 := by decide +kernel
theorem set_form : (stab.getD 16 .none).low = 0 ∧ (stab.getD 16 .none).high = 65535 := by decide +kernel
theorem nok_jump {p : Nat} (hp : p ≤ 30) {f : SForm} (hf : stab.getD p .none = f) {va vb at_ vn : Int} (hj : isJump ⟨p, va, vb, 0⟩ = true) (h0 : 0 ≤ vn) (h1 : vn ≤ at_ + 40) : NOk f at_ vn := by
  intro hat
  have h27 : p = 27 ∨ p = 28 := by
    have : ((p : Int) = 27 ∨ (p : Int) = 28) := by simpa [isJump] using hj
    omega
  have := jump_form p hp h27
  rw [hf] at this
  omega
theorem valid_drawn {p : Nat} (hp : p ≤ 30) {f : SForm} (hf : stab.getD p .none = f) {va vb at_ vn : Int} (a0 : 0 ≤ va) (a1 : va ≤ f.a) (b0 : 0 ≤ vb) (b1 : vb ≤ f.b) (h30 : p = 30 → 0 < vb) (hn : NOk f at_ vn) (hat : at_ ≤ 1900) : validIns ⟨p, va, vb, vn⟩ = true := by
  have h := hn hat
  have e : ((p : Int)).toNat = p := Int.toNat_natCast p
  unfold validIns validAt
  simp only [e]
  rw [hf]
  have h1 : inRange (p : Int) 0 30 = true := by simp [inRange]; omega
  have h2 : inRange va 0 f.a = true := by simp [inRange]; omega
  have h3 : inRange vb 0 f.b = true := by simp [inRange]; omega
  have h4 : inRange vn f.low f.high = true := by simp [inRange]; omega
  rw [h1, h2, h3, h4]
  by_cases hq : p = 30
  · have := h30 hq
    simp [this]
  · have : ((p : Int) == 30) = false := by simp; omega
    simp [this]
theorem b30 : (stab.getD 30 .none).b = 8 := rfl
def InsPr (op at_ : Int) (i : IIns) : Prop := i.op = op ∧ (at_ ≤ 1900 → validIns i = true)
set_option maxRecDepth 100000 in
set_option maxHeartbeats 8000000 in
theorem ins_c (op at_ : Int) (h0 : 0 ≤ op) (h30 : op ≤ 30) (at0 : 0 ≤ at_) (at1 : at_ ≤ 10000) (sb : Nat) (a : Option Addr) (len cap : Nat) (zs : List Int) (k : Int) (w : World) (h : Src w sb a len cap zs k) (hk : k ≤ 999999900) :
    Calls Try.prog 108 #[.pointer (some ⟨sb, 0, none⟩), .int .i64 op, .int .i64 at_] w (GotIns (InsPr op at_) sb a len cap zs k 20 w) := by
  have HS := hid h
  have hsb := h.here
  clear h
  obtain ⟨p, rfl⟩ := Int.eq_ofNat_of_zero_le h0
  have hp30 : p ≤ 30 := by omega
  have hfb := sform_bd p hp30
  simp only at hfb
  obtain ⟨f, hf⟩ : ∃ f, stab.getD p .none = f := ⟨_, rfl⟩
  rw [hf] at hfb
  obtain ⟨fa0, fa1, fb0, fb1, fl0, fl1, fh0, fh1⟩ := hfb
  have HF := hid hf
  clear hf
  go_enter Try.func108, Try.ntmps108
  go_wp2_with fail
  refine (sforms_c _).mono ?_
  rintro e w1 ⟨g, gcap, rfl, hown, hb⟩
  have hff := sforms_at hp30 hown
  rw [HF.out] at hff
  obtain ⟨f0, f1, f2, f3, f4, f5, f6, fl⟩ := hff
  have M1 := hid (((Moved.refl sb w).alloc (.cells #[.int .i64 0, .int .i64 0, .int .i64 0, .int .i64 0] 24)).on hb)
  have S1 := hid ((HS.out.alloc (.cells #[.int .i64 0, .int .i64 0, .int .i64 0, .int .i64 0] 24)).on hb)
  have R1 := hid ((Row.new w 24 #[.int .i64 0, .int .i64 0, .int .i64 0, .int .i64 0]).on hb)
  have hz1 := hb.size
  simp at hz1
  clear hown hb
  obtain ⟨W0, hW⟩ : ∃ W0, w1.alloc (.cells #[.int .i64 f.first, .int .u8 f.plus, .int .i64 f.a, .int .i64 f.b, .int .i64 f.low, .int .i64 f.high, .string f.rest] 122) = W0 := ⟨_, rfl⟩
  have S0 : Hid (Src W0 sb a len cap zs k) := by rw [← hW]; exact S1.out.alloc _
  have M0 : Hid (Moved sb w W0) := by rw [← hW]; exact M1.out.alloc _
  have RF : Hid (Row W0 w1.heap.size 122 f.cells.toArray) := by rw [← hW]; exact Row.new _ _ _
  have RO : Hid (Row W0 w.heap.size 24 #[.int .i64 0, .int .i64 0, .int .i64 0, .int .i64 0]) := by rw [← hW]; exact R1.out.alloc _
  have hz0 : W0.heap.size = w1.heap.size + 1 := by rw [← hW]; simp
  have hzA : w1.heap.size < W0.heap.size := by omega
  have hzB : sb < W0.heap.size := by omega
  have hn7 : w1.heap.size ≠ sb := by omega
  have hn8 : W0.heap.size ≠ sb := by omega
  have q2 := RF.out.cell 2
  have q3 := RF.out.cell 3
  simp [SForm.cells] at q2 q3
  go_upto_region 2 with fail
  clear hz0 hW f0 f1 f2 f3 f4 f5 f6 S1 M1 R1 fl
  go_cut [8] (fun s8 wx => ∃ (g8 : Nat) (va vb : Int), s8 = .pointer (some ⟨g8, 0, none⟩) ∧ 0 ≤ va ∧ va ≤ f.a ∧ 0 ≤ vb ∧ vb ≤ f.b ∧ Begun p W0 sb a len cap zs k g8 va vb wx)
  case first =>
    have tok : True := trivial
    have wa : IntKind.i64.wrap (f.a + 1) = f.a + 1 := IntWalk.i64_in _ (by omega)
    have wb : IntKind.i64.wrap (f.b + 1) = f.b + 1 := IntWalk.i64_in _ (by omega)
    go_region_with (first
      | (go_at_call 69; have _t := tok; refine (pick_c _ sb a len cap zs k _ ?_ ?_ ?_).mono ?_; (first | exact S0.out | exact S0.out.drew | exact (S0.out.alloc _).drew | exact S0.out.drew.alloc _); omega; omega; rintro e x1 ⟨v1, k1, rfl, ⟨hv1, hv1'⟩, hk1, hk1', s1, m1⟩; have T1 := hid s1; have e2 := m1.cell (b := w1.heap.size) (o := 2) (by simp; omega) hn7; have e3 := m1.cell (b := w1.heap.size) (o := 3) (by simp; omega) hn7; simp [go_sem, hzA, q2, q3] at e2 e3; obtain ⟨c1, z1⟩ := mcell m1; have y1 : W0.heap.size ≤ x1.heap.size := (by have := m1.size; simp at this; omega); have y1' : x1.heap.size ≠ sb := (by omega); have y1'' : w1.heap.size < x1.heap.size := (by omega); have y1s : W0.heap.size < x1.heap.size ∨ W0.heap.size = x1.heap.size := (by omega); have y1a := m1.size; (try simp at y1a); (first | (have y1b := Nat.lt_of_succ_le y1a) | skip); have N1 := hid m1; clear tok _t s1 m1)
      | (go_at_call 69; refine (pick_c _ sb a len cap zs k1 _ ?_ ?_ ?_).mono ?_; (first | exact T1.out | exact T1.out.alloc _); omega; omega; rintro e x2 ⟨v2, k2, rfl, ⟨hv2, hv2'⟩, hk2, hk2', s2, m2⟩; have T2 := hid s2; obtain ⟨c2, z2⟩ := mcell m2; have y2 : x1.heap.size ≤ x2.heap.size := (by have := m2.size; (try simp at this); omega); have y2a := m2.size; (try simp at y2a); (first | (have y2b := Nat.lt_of_succ_le y2a) | skip); have N2 := hid m2; clear s2 m2))
    all_goals
      go_wp2_with fail
      go_meet
      first
        | with_reducible exact ⟨_, v1, v2, rfl, hv1, by omega, hv2, by omega, .way1 (by omega) T2.out (by omega) (by omega) (.both N1.out N2.out)⟩
        | with_reducible exact ⟨_, v1, v2, rfl, hv1, by omega, hv2, by omega, .way2 rfl hzB T2.out (by omega) (by omega) N1.out N2.out⟩
        | with_reducible exact ⟨_, v1, v2, rfl, hv1, by omega, hv2, by omega, .way3 rfl (by omega) hzB T2.out (by omega) (by omega) N1.out N2.out⟩
        | with_reducible exact ⟨_, v2, v1, rfl, hv2, by omega, hv1, by omega, .way1 (by omega) T2.out (by omega) (by omega) (.both N1.out N2.out)⟩
        | with_reducible exact ⟨_, v2, v1, rfl, hv2, by omega, hv1, by omega, .way2 rfl hzB T2.out (by omega) (by omega) N1.out N2.out⟩
        | with_reducible exact ⟨_, v2, v1, rfl, hv2, by omega, hv1, by omega, .way3 rfl (by omega) hzB T2.out (by omega) (by omega) N1.out N2.out⟩
  case rest =>
    obtain ⟨g8, va, vb, rfl, va0, va1, vb0, vb1, hbeg⟩ := hcut
    obtain ⟨hg8, hrow, ⟨k2, hk2, hk2', hsrc⟩, hmov⟩ := hbeg
    have RW := hid hrow
    have RF2 := hid (RF.out.moved hmov hn7)
    have RO2 := hid (RO.out.moved hmov (by omega))
    have SW := hid hsrc
    have MW := hid (M0.out.trans hmov)
    have hz8 := hrow.lt
    have hz9 := hmov.size
    have r0 := hrow.cell 0
    have r1 := hrow.cell 1
    have r2 := hrow.cell 2
    have r3 := hrow.cell 3
    simp at r0 r1 r2 r3
    clear hrow hsrc hmov q2 q3
    have hw8 : w.heap.size ≤ g8 := by have := M0.out.size; omega
    have hsg : sb < g8 := by omega
    have hs6 : w.heap.size ≠ sb := by omega
    have hn9 : g8 ≠ sb := by omega
    have h6z : w.heap.size < wc.heap.size := RO2.out.lt
    have h7z : w1.heap.size < wc.heap.size := RF2.out.lt
    have h68 : w.heap.size ≠ g8 := by have := RO.out.lt; omega
    go_upto_block 0 with fail
    go_cut [] (fun wx => ∃ (vn k3 : Int), InsMid (NOk f at_) p va vb vn k k3 sb a len cap zs w g8 wx)
    case first =>
      cases hj : isJump ⟨p, va, vb, 0⟩
      · have HJ := hid hj
        clear hj
        by_cases h16 : p = 16
        · subst h16
          have hj16 : isJump ⟨16, va, vb, 0⟩ = false := rfl
          have HJ16 := hid hj16
          clear hj16
          go_wp2_with fail
          refine (isJump_c ⟨16, va, vb, 0⟩ _).mono ?_
          rw [HJ16.out]
          rintro e w2 ⟨rfl, hb2⟩
          have SW2 := hid (SW.out.on hb2)
          have RW2 := hid (RW.out.on hb2)
          have RO3 := hid (RO2.out.on hb2)
          have RF3 := hid (RF2.out.on hb2)
          have MW2 := hid (MW.out.on hb2)
          have hy2 := hb2.size
          clear hb2 r0 r1 r2 r3
          go_wp2_with fail
          refine (word_c sb a len cap zs k2 _ SW2.out (by omega)).mono ?_
          rintro e w3 ⟨v3, k3, rfl, ⟨hv3, hv3'⟩, hk3, hk3', s3, m3⟩
          have S3 := hid s3
          have RW3 := hid (RW2.out.moved m3 hn9)
          have RO4 := hid (RO3.out.moved m3 hs6)
          have M3 := hid (MW2.out.trans m3)
          have hz3 := m3.size
          clear s3 m3
          have r3 := RW3.out.cell 3
          simp at r3
          have rz := RW3.out.free
          have hl8 : g8 < w3.heap.size := RW3.out.lt
          go_wp2_with fail
          go_meet
          exact ⟨_, k3, .put RW3.out RO4.out (by omega) (by omega) (fun _ => by have h := set_form; rw [HF.out] at h; omega) S3.out (by omega) (by omega) M3.out hsg hw8 h68⟩
        · have h16' : ((p : Int) == 16) = false := by simp; omega
          go_wp2_with fail
          refine (isJump_c ⟨p, va, vb, 0⟩ _).mono ?_
          rw [HJ.out]
          rintro e w2 ⟨rfl, hb2⟩
          have SW2 := hid (SW.out.on hb2)
          have RW2 := hid (RW.out.on hb2)
          have RO3 := hid (RO2.out.on hb2)
          have RF3 := hid (RF2.out.on hb2)
          have MW2 := hid (MW.out.on hb2)
          have hy2 := hb2.size
          clear hb2 r0 r1 r2 r3
          have f4 := RF3.out.cell 4
          have f5 := RF3.out.cell 5
          simp [SForm.cells] at f4 f5
          by_cases hlh : f.low < f.high
          · have wm : IntKind.i64.wrap (f.high - f.low) = f.high - f.low := IntWalk.i64_in _ (by omega)
            have wm1 : IntKind.i64.wrap (f.high - f.low + 1) = f.high - f.low + 1 := IntWalk.i64_in _ (by omega)
            go_wp2_with fail
            have h7w : w1.heap.size < w2.heap.size := RF3.out.lt
            have h8w : g8 < w2.heap.size := RW2.out.lt
            have rz := RW2.out.free
            have r3 := RW2.out.cell 3
            simp at r3
            go_region_with (go_at_call 69; refine (pick_c _ sb a len cap zs k2 _ SW2.out.drew ?_ ?_).mono ?_; omega; omega; rintro e w3 ⟨v3, k3, rfl, ⟨hv3, hv3'⟩, hk3, hk3', s3, m3⟩; have e4 := m3.cell (b := w1.heap.size) (o := 4) (by simp; omega) hn7; have e3 := m3.cell (b := g8) (o := 3) (by simp; omega) hn9; have ez := m3.frozen (b := g8) (o := 3) (by simp; omega) hn9; simp [go_sem, f4, r3, rz] at e4 e3 ez; have hw8' : g8 < w3.heap.size := (by have := m3.size; simp at this; omega); have wl : IntKind.i64.wrap (f.low + v3) = f.low + v3 := (IntWalk.i64_in _ (by omega)); have N3 := hid m3; have S3 := hid s3; clear s3 m3)
            all_goals
              go_wp2_with fail
              go_meet
              exact ⟨_, k3, .put (RW2.out.moved (Moved.drewed N3.out) hn9) (RO3.out.moved (Moved.drewed N3.out) hs6) (by omega) (by omega) (fun _ => by omega) S3.out (by omega) (by omega) (MW2.out.trans (Moved.drewed N3.out)) hsg hw8 h68⟩
          · have hlh' : decide (f.low < f.high) = false := by simpa using hlh
            go_wp2_with fail
            go_meet
            exact ⟨0, k2, ⟨RW2.out, RO3.out, by omega, by omega, (fun _ => by omega), SW2.out, by omega, by omega, MW2.out⟩⟩
      · have HJ := hid hj
        clear hj
        go_wp2_with fail
        refine (isJump_c ⟨p, va, vb, 0⟩ _).mono ?_
        rw [HJ.out]
        rintro e w2 ⟨rfl, hb2⟩
        have SW2 := hid (SW.out.on hb2)
        have RW2 := hid (RW.out.on hb2)
        have RO3 := hid (RO2.out.on hb2)
        have RF3 := hid (RF2.out.on hb2)
        have MW2 := hid (MW.out.on hb2)
        have hy2 := hb2.size
        clear hb2 r0 r1 r2 r3
        go_wp2_with fail
        refine (pick_c 40 sb a len cap zs k2 _ SW2.out (by omega) (by omega)).mono ?_
        rintro e w3 ⟨v3, k3, rfl, ⟨hv3, hv3'⟩, hk3, hk3', s3, m3⟩
        have S3 := hid s3
        have RW3 := hid (RW2.out.moved m3 hn9)
        have RO4 := hid (RO3.out.moved m3 hs6)
        have M3 := hid (MW2.out.trans m3)
        have hz3 := m3.size
        clear s3 m3
        have r3 := RW3.out.cell 3
        simp at r3
        have rz := RW3.out.free
        have hl8 : g8 < w3.heap.size := RW3.out.lt
        by_cases hneg : at_ + v3 - 12 < 0
        · go_wp2_with fail
          go_meet
          exact ⟨0, k3, .again (N' := fun _ => True) (vn := at_ + v3 - 12) (.put RW3.out RO4.out (by omega) (by omega) trivial S3.out (by omega) (by omega) M3.out hsg hw8 h68) (by omega) (by omega) (nok_jump hp30 HF.out HJ.out (by omega) (by omega)) hsg hw8 h68⟩
        · go_wp2_with fail
          go_meet
          exact ⟨_, k3, .put RW3.out RO4.out (by omega) (by omega) (nok_jump hp30 HF.out HJ.out (by omega) (by omega)) S3.out (by omega) (by omega) M3.out hsg hw8 h68⟩
    case rest =>
      obtain ⟨vn, k3, hmid⟩ := hcut
      have HM := hid hmid
      have r0 := hmid.row.cell 0
      have r1 := hmid.row.cell 1
      have r2 := hmid.row.cell 2
      have r3 := hmid.row.cell 3
      have o0 := hmid.out.cell 0
      have o1 := hmid.out.cell 1
      have o2 := hmid.out.cell 2
      have o3 := hmid.out.cell 3
      simp at r0 r1 r2 r3 o0 o1 o2 o3
      have rz := hmid.row.free
      have oz := hmid.out.free
      have hlA := hmid.row.lt
      have hlB := hmid.out.lt
      have hn0 := hmid.n0
      have hn1 := hmid.n1
      clear hmid
      have hne6 : g8 ≠ w.heap.size := Ne.symm h68
      by_cases hfix : p = 30 ∧ vb = 0
      · obtain ⟨rfl, rfl⟩ := hfix
        go_wp2_with fail
        refine bodyPost_ret (v := .agg #[.int .i64 30, .int .i64 va, .int .i64 1, .int .i64 vn]) (results_cell_row rfl _ _ w.heap.size 24 _ (0, 0) _ rfl (ins_row (HM.out.out.far (p := ⟨g8, 2, none⟩) h68 _) 30 va 1 vn) Try.underlying24 rfl rfl) rfl ?_
        exact ⟨⟨30, va, 1, vn⟩, k3, rfl, ⟨⟨by simp only; omega, by simp only; omega, by simp only; omega, by simp only; omega, by simp only; omega, by simp only; omega, by simp only; omega, by simp only; omega⟩, rfl, fun hat => valid_drawn (p := 30) hp30 HF.out va0 va1 (by omega) (by have h8 := b30; rw [HF.out] at h8; omega) (fun _ => by omega) HM.out.ok hat⟩, HM.out.k0, by have := HM.out.k1; omega, (((((HM.out.src.fresh hsg _ _).fresh hsb _ _).fresh hsb _ _).fresh hsb _ _).fresh hsb _ _), (((((HM.out.mov.fresh hw8 _ _).fresh (Nat.le_refl _) _ _).fresh (Nat.le_refl _) _ _).fresh (Nat.le_refl _) _ _).fresh (Nat.le_refl _) _ _)⟩
      · by_cases h30' : p = 30
        · have hvb : (vb == 0) = false := by simp; intro h; exact hfix ⟨h30', h⟩
          subst h30'
          clear hfix
          go_wp2_with fail
          refine bodyPost_ret (v := .agg #[.int .i64 30, .int .i64 va, .int .i64 vb, .int .i64 vn]) (results_cell_row rfl _ _ w.heap.size 24 _ (0, 0) _ rfl (ins_row HM.out.out 30 va vb vn) Try.underlying24 rfl rfl) rfl ?_
          exact ⟨⟨30, va, vb, vn⟩, k3, rfl, ⟨⟨by simp only; omega, by simp only; omega, by simp only; omega, by simp only; omega, by simp only; omega, by simp only; omega, by simp only; omega, by simp only; omega⟩, rfl, fun hat => valid_drawn (p := 30) hp30 HF.out va0 va1 vb0 vb1 (fun _ => by simp at hvb; omega) HM.out.ok hat⟩, HM.out.k0, by have := HM.out.k1; omega, ((((HM.out.src.fresh hsb _ _).fresh hsb _ _).fresh hsb _ _).fresh hsb _ _), ((((HM.out.mov.fresh (Nat.le_refl _) _ _).fresh (Nat.le_refl _) _ _).fresh (Nat.le_refl _) _ _).fresh (Nat.le_refl _) _ _)⟩
        · have hpb : ((p : Int) == 30) = false := by simp; omega
          clear hfix
          go_wp2_with fail
          refine bodyPost_ret (v := .agg #[.int .i64 p, .int .i64 va, .int .i64 vb, .int .i64 vn]) (results_cell_row rfl _ _ w.heap.size 24 _ (0, 0) _ rfl (ins_row HM.out.out p va vb vn) Try.underlying24 rfl rfl) rfl ?_
          exact ⟨⟨p, va, vb, vn⟩, k3, rfl, ⟨⟨by simp only; omega, by simp only; omega, by simp only; omega, by simp only; omega, by simp only; omega, by simp only; omega, by simp only; omega, by simp only; omega⟩, rfl, fun hat => valid_drawn hp30 HF.out va0 va1 vb0 vb1 (fun h => by simp at hpb; omega) HM.out.ok hat⟩, HM.out.k0, by have := HM.out.k1; omega, ((((HM.out.src.fresh hsb _ _).fresh hsb _ _).fresh hsb _ _).fresh hsb _ _), ((((HM.out.mov.fresh (Nat.le_refl _) _ _).fresh (Nat.le_refl _) _ _).fresh (Nat.le_refl _) _ _).fresh (Nat.le_refl _) _ _)⟩
end Go.Proofs.Ytihhpgklpichgab.Src
