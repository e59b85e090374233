/- The draws of instructions (anyIns, DrawInsOk, DrawInsLong): what they return · The draws of InsOk and InsPut · The draw of InsAt: bytes, DrawInsAt. -/
import Derived.Test.YtihhpgklpichgabDraw2
import Derived.Test.YtihhpgklpichgabC2v
import Derived.Test.YtihhpgklpichgabApp
import Derived.Test.YtihhpgklpichgabL2b
set_option linter.unusedSimpArgs false
set_option linter.unusedVariables false
namespace Go.Proofs.Ytihhpgklpichgab.Src
open Go.RowKit Pl Ft Mm C2

set_option maxRecDepth 100000 in
set_option maxHeartbeats 2000000 in
theorem anyIns_c (at_ : Int) (at0 : 0 ≤ at_) (at1 : at_ ≤ 10000) (sb : Nat) (a : Option Addr) (len cap : Nat) (zs : List Int) (k : Int) (w : World) (h : Src w sb a len cap zs k) (hk : k ≤ 999999800) :
    Calls Try.prog 61 #[.pointer (some ⟨sb, 0, none⟩), .int .i64 at_] w (GotIns (fun _ => True) sb a len cap zs k 60 w) := by
  have HS := hid h
  have hsb := h.here
  clear h
  go_enter Try.func61, Try.ntmps61
  go_wp2_with fail
  refine (pick_c 31 sb a len cap zs k _ (HS.out.alloc _) (by omega) (by omega)).mono ?_
  rintro e w1 ⟨v1, k1, rfl, ⟨hv1, hv1'⟩, hk1, hk1', s1, m1⟩
  have S1 := hid s1
  have R1 := hid ((Row.new w 24 #[.int .i64 0, .int .i64 0, .int .i64 0, .int .i64 0]).moved m1 (by omega))
  have M1 := hid (((Moved.refl sb w).alloc (.cells #[.int .i64 0, .int .i64 0, .int .i64 0, .int .i64 0] 24)).trans m1)
  have hz1 := m1.size
  simp at hz1
  clear s1 m1
  go_wp2_with fail
  refine (ins_c v1 at_ hv1 (by omega) at0 at1 sb a len cap zs k1 _ S1.out (by omega)).mono ?_
  rintro e w2 ⟨i, k2, rfl, ⟨hsm, _⟩, hk2, hk2', s2, m2⟩
  obtain ⟨iop, ia, ib, n⟩ := i
  have HSm := hid hsm
  have S2 := hid (s2.alloc (.cells #[.int .i64 iop, .int .i64 ia, .int .i64 ib, .int .i64 n] 24))
  have R2 := hid ((R1.out.moved m2 (by omega)).alloc (.cells #[.int .i64 iop, .int .i64 ia, .int .i64 ib, .int .i64 n] 24))
  have M2 := hid ((M1.out.trans m2).alloc (.cells #[.int .i64 iop, .int .i64 ia, .int .i64 ib, .int .i64 n] 24))
  have hz2 := m2.size
  clear s2 m2 hsm
  unfold IIns.val
  simp only
  go_wp2_with fail
  refine (rare_c sb a len cap zs k2 _ S2.out (by omega)).mono ?_
  rintro e w3 ⟨rb, k3, rfl, hk3, hk3', s3, m3⟩
  have S3 := hid s3
  have R3 := hid (R2.out.moved m3 (by omega))
  have RI := hid ((Row.new w2 24 #[.int .i64 iop, .int .i64 ia, .int .i64 ib, .int .i64 n]).moved m3 (by omega))
  have M3 := hid (M2.out.trans m3)
  have hz3 := m3.size
  simp at hz3
  clear s3 m3
  cases rb
  · have q0 := RI.out.cell 0
    have q1 := RI.out.cell 1
    have q2 := RI.out.cell 2
    have q3 := RI.out.cell 3
    have o0 := R3.out.cell 0
    have o1 := R3.out.cell 1
    have o2 := R3.out.cell 2
    have o3 := R3.out.cell 3
    simp at q0 q1 q2 q3 o0 o1 o2 o3
    have oz := R3.out.free
    go_wp2_with fail
    refine bodyPost_ret (v := .agg #[.int .i64 iop, .int .i64 ia, .int .i64 ib, .int .i64 n]) (results_cell_row rfl _ _ w.heap.size 24 _ (0, 0) _ rfl (ins_row R3.out iop ia ib n) Try.underlying24 rfl rfl) rfl ?_
    exact ⟨⟨iop, ia, ib, n⟩, k3, rfl, ⟨HSm.out, trivial⟩, by omega, by omega, (((S3.out.fresh hsb _ _).fresh hsb _ _).fresh hsb _ _).fresh hsb _ _, (((M3.out.fresh (Nat.le_refl _) _ _).fresh (Nat.le_refl _) _ _).fresh (Nat.le_refl _) _ _).fresh (Nat.le_refl _) _ _⟩
  · go_wp2_with fail
    refine (pick_c 40 sb a len cap zs k3 _ S3.out (by omega) (by omega)).mono ?_
    rintro e w4 ⟨v4, k4, rfl, ⟨hv4, hv4'⟩, hk4, hk4', s4, m4⟩
    have S4 := hid s4
    have R4 := hid (R3.out.moved m4 (by omega))
    have M4 := hid (M3.out.trans m4)
    clear s4 m4
    go_wp2_with fail
    refine (pick_c 6 sb a len cap zs k4 _ S4.out (by omega) (by omega)).mono ?_
    rintro e w5 ⟨v5, k5, rfl, ⟨hv5, hv5'⟩, hk5, hk5', s5, m5⟩
    have S5 := hid s5
    have R5 := hid (R4.out.moved m5 (by omega))
    have M5 := hid (M4.out.trans m5)
    clear s5 m5
    go_wp2_with fail
    refine (pick_c 9 sb a len cap zs k5 _ S5.out (by omega) (by omega)).mono ?_
    rintro e w6 ⟨v6, k6, rfl, ⟨hv6, hv6'⟩, hk6, hk6', s6, m6⟩
    have S6 := hid s6
    have R6 := hid (R5.out.moved m6 (by omega))
    have M6 := hid (M5.out.trans m6)
    clear s6 m6
    go_wp2_with fail
    refine (word_c sb a len cap zs k6 _ S6.out (by omega)).mono ?_
    rintro e w7 ⟨v7, k7, rfl, ⟨hv7, hv7'⟩, hk7, hk7', s7, m7⟩
    have S7 := hid s7
    have R7 := hid (R6.out.moved m7 (by omega))
    have M7 := hid (M6.out.trans m7)
    clear s7 m7
    have o0 := R7.out.cell 0
    have o1 := R7.out.cell 1
    have o2 := R7.out.cell 2
    have o3 := R7.out.cell 3
    simp at o0 o1 o2 o3
    have oz := R7.out.free
    go_wp2_with fail
    refine bodyPost_ret (v := .agg #[.int .i64 (v4 - 2), .int .i64 (v5 - 1), .int .i64 v6, .int .i64 (v7 - 300)]) (results_cell_row rfl _ _ w.heap.size 24 _ (0, 0) _ rfl (ins_row R7.out (v4 - 2) (v5 - 1) v6 (v7 - 300)) Try.underlying24 rfl rfl) rfl ?_
    exact ⟨⟨v4 - 2, v5 - 1, v6, v7 - 300⟩, k7, rfl, ⟨⟨by simp only; omega, by simp only; omega, by simp only; omega, by simp only; omega, by simp only; omega, by simp only; omega, by simp only; omega, by simp only; omega⟩, trivial⟩, by omega, by omega, (((S7.out.fresh hsb _ _).fresh hsb _ _).fresh hsb _ _).fresh hsb _ _, (((M7.out.fresh (Nat.le_refl _) _ _).fresh (Nat.le_refl _) _ _).fresh (Nat.le_refl _) _ _).fresh (Nat.le_refl _) _ _⟩
end Go.Proofs.Ytihhpgklpichgab.Src
namespace Go.Proofs.Ytihhpgklpichgab.Src
open Go.RowKit Pl Ft Mm C2

theorem results_cell_tmp2 {fn : Func} {p r : Tmp} {t : TypeId} (h : fn.results = #[.cell p t, .tmp r]) (tmps : Array Value) (w : World) (g : Nat) (cs : Array Value) (fs : Array Field)
    (hp : tmps.getD p undef = .pointer (some ⟨g, 0, none⟩)) (h1 : Row w g t cs) (hu : Try.prog.underlying t = some (.struct fs)) (hi : (Try.prog.info? t).map (·.size) = some cs.size) :
    (results fn tmps).run Try.prog w = .ok (.tuple #[.agg cs, tmps.getD r undef]) w := by
  have hp' : tmps[p]?.getD undef = .pointer (some ⟨g, 0, none⟩) := by simpa using hp
  simp [results, h, hp', asAddr, run_loadVar_row w g t t cs (0, 0) _ h1 hu rfl hi]
set_option maxRecDepth 100000 in
theorem drawInsOk_c (a : Option Addr) (len cap : Nat) (zs : List Int) (w : World) (hB : Bytes w a len zs) :
    Calls Try.prog 20 #[.slice a len cap] w fun e w' => ∃ i : IIns, e = .returned i.val ∧ Small i ∧ Below w.heap.size w w' := by
  have H := hid hB
  clear hB
  go_enter Try.func20, Try.ntmps20
  go_wp2_with fail
  refine (from_c a len cap zs _ (H.out.alloc _)).mono ?_
  rintro e w1 ⟨sb, rfl, hsb, s1, b1⟩
  have S1 := hid s1
  have hr1 := (Row.new w 24 #[.int .i64 0, .int .i64 0, .int .i64 0, .int .i64 0]).on b1
  have R1 := hid hr1
  have B1 := hid (((Below.refl _ _).alloc (Nat.le_refl _) (.cells #[.int .i64 0, .int .i64 0, .int .i64 0, .int .i64 0] 24)).trans (b1.mono (by simp)))
  simp at hsb
  clear s1 b1 hr1
  go_wp2_with fail
  refine (anyIns_c 20 (by omega) (by omega) sb a len cap zs 0 _ S1.out (by omega)).mono ?_
  rintro e w2 ⟨i, k2, rfl, ⟨hsm, _⟩, hk2, hk2', s2, m2⟩
  obtain ⟨iop, ia, ib, n⟩ := i
  have HSm := hid hsm
  have R2 := hid (R1.out.moved m2 (by omega))
  have hBe := m2.below B1.out (by omega) B1.out.size
  have B2 := hid hBe
  clear s2 m2 hsm hBe
  have o0 := R2.out.cell 0
  have o1 := R2.out.cell 1
  have o2 := R2.out.cell 2
  have o3 := R2.out.cell 3
  simp at o0 o1 o2 o3
  have oz := R2.out.free
  unfold IIns.val
  simp only
  go_wp2_with fail
  refine bodyPost_ret (v := .agg #[.int .i64 iop, .int .i64 ia, .int .i64 ib, .int .i64 n]) (results_cell_row rfl _ _ w.heap.size 24 _ (0, 0) _ rfl (ins_row R2.out iop ia ib n) Try.underlying24 rfl rfl) rfl ?_
  exact ⟨⟨iop, ia, ib, n⟩, rfl, HSm.out, (((B2.out.setCell (Nat.le_refl _) _).setCell (Nat.le_refl _) _).setCell (Nat.le_refl _) _).setCell (Nat.le_refl _) _⟩
set_option maxRecDepth 100000 in
theorem drawInsPut_c (a : Option Addr) (len cap : Nat) (zs : List Int) (w : World) (hB : Bytes w a len zs) :
    Calls Try.prog 24 #[.slice a len cap] w fun e w' => ∃ (i : IIns) (at_ : Int), e = .returned (.tuple #[i.val, .int .i64 at_]) ∧ 0 ≤ at_ ∧ at_ ≤ 200 ∧ Below w.heap.size w w' := by
  have H := hid hB
  clear hB
  go_enter Try.func24, Try.ntmps24
  go_wp2_with fail
  refine (from_c a len cap zs _ (H.out.alloc _)).mono ?_
  rintro e w1 ⟨sb, rfl, hsb, s1, b1⟩
  have S1 := hid s1
  have hr1 := (Row.new w 24 #[.int .i64 0, .int .i64 0, .int .i64 0, .int .i64 0]).on b1
  have R1 := hid hr1
  have B1 := hid (((Below.refl _ _).alloc (Nat.le_refl _) (.cells #[.int .i64 0, .int .i64 0, .int .i64 0, .int .i64 0] 24)).trans (b1.mono (by simp)))
  simp at hsb
  clear s1 b1 hr1
  go_wp2_with fail
  refine (pick_c 200 sb a len cap zs 0 _ S1.out (by omega) (by omega)).mono ?_
  rintro e w2 ⟨at_, k1, rfl, ⟨hv1, hv1'⟩, hk1, hk1', s2, m2⟩
  have S2 := hid s2
  have R2 := hid (R1.out.moved m2 (by omega))
  have hBe := m2.below B1.out (by omega) B1.out.size
  have B2 := hid hBe
  clear s2 m2 hBe
  go_wp2_with fail
  refine (anyIns_c at_ (by omega) (by omega) sb a len cap zs k1 _ S2.out (by omega)).mono ?_
  rintro e w3 ⟨i, k2, rfl, ⟨hsm, _⟩, hk2, hk2', s3, m3⟩
  obtain ⟨iop, ia, ib, n⟩ := i
  have R3 := hid (R2.out.moved m3 (by omega))
  have hBe := m3.below B2.out (by omega) B2.out.size
  have B3 := hid hBe
  clear s3 m3 hsm hBe
  have o0 := R3.out.cell 0
  have o1 := R3.out.cell 1
  have o2 := R3.out.cell 2
  have o3 := R3.out.cell 3
  simp at o0 o1 o2 o3
  have oz := R3.out.free
  unfold IIns.val
  simp only
  go_wp2_with fail
  have hrow := (((R3.out.set 0 (.int .i64 iop)).set 1 (.int .i64 ia)).set 2 (.int .i64 ib)).set 3 (.int .i64 n)
  refine bodyPost_ret (v := .tuple #[.agg #[.int .i64 iop, .int .i64 ia, .int .i64 ib, .int .i64 n], .int .i64 at_]) ?_ rfl ?_
  · exact results_cell_tmp2 Try.results24 _ _ w.heap.size #[.int .i64 iop, .int .i64 ia, .int .i64 ib, .int .i64 n] _ rfl hrow Try.underlying24 (by kernel_rfl)
  exact ⟨⟨iop, ia, ib, n⟩, at_, rfl, by omega, by omega, (((B3.out.setCell (p := ⟨w.heap.size, 0, none⟩) (Nat.le_refl _) _).setCell (p := ⟨w.heap.size, 1, none⟩) (Nat.le_refl _) _).setCell (p := ⟨w.heap.size, 2, none⟩) (Nat.le_refl _) _).setCell (p := ⟨w.heap.size, 3, none⟩) (Nat.le_refl _) _⟩
end Go.Proofs.Ytihhpgklpichgab.Src
namespace Go.Proofs.Ytihhpgklpichgab.Src
open Go.RowKit Pl Ft Mm C2 In Im

theorem Src.below {sb B : Nat} {a : Option Addr} {len cap : Nat} {zs : List Int} {k : Int} {w w' : World} (h : Src w sb a len cap zs k) (hb : Below B w w') (hB : sb < B) : Src w' sb a len cap zs k := by
  refine ⟨?_, ?_, ?_, h.lo, ⟨h.bytes.small, ?_, h.bytes.range⟩, h.apart, Nat.lt_of_lt_of_le h.here hb.size⟩
  · rw [hb.cell (p := ⟨sb, 0, none⟩) hB]; exact h.code
  · rw [hb.cell (p := ⟨sb, 1, none⟩) hB]; exact h.at_
  · rw [hb.frozen (p := ⟨sb, 1, none⟩) hB]; exact h.free
  · rcases h.bytes.cells with h0 | ⟨b, o, e, hlt, hc⟩
    · exact .inl h0
    · by_cases hl : len = 0
      · exact .inl hl
      · have hbs := h.apart b o e (by omega)
        refine .inr ⟨b, o, e, Nat.lt_of_lt_of_le hlt hb.size, fun i hi => ?_⟩
        rw [hb.cell (p := ⟨b, o + i, none⟩) (show b < B by omega)]
        exact hc i hi
theorem Moved.grow {sb B : Nat} {a w w' : World} (h : Moved sb a w) (hb : Below B w w') (hB : a.heap.size ≤ B) : Moved sb a w' :=
  ⟨hb.os.trans h.os, hb.tape.trans h.tape, hb.output.trans h.output, Nat.le_trans h.size hb.size, fun k hk hn => (hb.block k (by omega)).trans (h.block k hk hn)⟩
theorem own_moved {sb : Nat} {w w' : World} {base : Nat} {e : TypeId} {size : Nat} {v : Value} {n : Nat} {xs : List Value} (h : w.ownsRow base e size v n xs) (hv : sb < base) (m : Moved sb w w') : w'.ownsRow base e size v n xs := by
  refine ⟨h.1, ?_⟩
  rcases h.2 with h0 | ⟨g, cap, cur, rfl, hg, hr, hrest⟩
  · exact .inl h0
  · exact .inr ⟨g, cap, cur, rfl, hg, (m.block g (Array.getElem?_eq_some_iff.1 hr).1 (by omega)).trans hr, hrest⟩
theorem sput_len {i : IIns} {at_ : Int} (hv : validIns i = true) (h0 : 0 ≤ at_) (h1 : at_ ≤ 1999) : ((sput i at_).getD []).length ≤ 5 := by
  have h := sput_eq i at_
  have hin : inRange at_ 0 1999 = true := by simp [inRange]; omega
  rw [hv, hin] at h
  have e : sput i at_ = insPut i at_ := by rw [← h]; rfl
  cases ho : sput i at_ with
  | none => simp
  | some l => exact insPut_len (by rw [← e]; exact ho)
/-- The rounds of bytes. -/
structure BytesRel (w : World) (sb : Nat) (a : Option Addr) (len cap : Nat) (zs : List Int) (k : Int) (j : Int) (v : Value) (xs : List Int) (wr : World) : Prop where
  own : wr.ownsRow w.heap.size 3 1 v xs.length (ints xs)
  j0 : -1 ≤ j
  j1 : j ≤ 13
  xlen : (xs.length : Int) ≤ 5 * (13 - j)
  src : ∃ k' : Int, k ≤ k' ∧ k' ≤ k + 2 + 30 * (13 - j) ∧ Src wr sb a len cap zs k'
  mov : Moved sb w wr
def GotBytes (sb : Nat) (a : Option Addr) (len cap : Nat) (zs : List Int) (k : Int) (w : World) (e : Ending) (w' : World) : Prop :=
  ∃ (v : Value) (xs : List Int) (k' : Int), e = .returned v ∧ w'.ownsRow w.heap.size 3 1 v xs.length (ints xs) ∧ 1 ≤ xs.length ∧ xs.length ≤ 100 ∧ k ≤ k' ∧ k' ≤ k + 500 ∧ Src w' sb a len cap zs k' ∧ Moved sb w w'
set_option maxRecDepth 100000 in
set_option maxHeartbeats 2000000 in
theorem bytes_c (sb : Nat) (a : Option Addr) (len cap : Nat) (zs : List Int) (k : Int) (w : World) (h : Src w sb a len cap zs k) (hk : k ≤ 999990000) :
    Calls Try.prog 72 #[.pointer (some ⟨sb, 0, none⟩)] w (GotBytes sb a len cap zs k w) := by
  have HS := hid h
  have hsb := h.here
  have HS0 := hid (h.alloc (.cells #[] 3))
  have HM0 := hid ((Moved.refl sb w).alloc (.cells #[] 3))
  have HL0 := hid (own_lit w [] #[] rfl (by simp) 0 rfl)
  clear h
  go_enter Try.func72, Try.ntmps72
  go_wp2_with fail
  refine (pick_c 14 sb a len cap zs k _ HS0.out (by omega) (by omega)).mono ?_
  rintro e w1 ⟨v1, k1, rfl, ⟨hv1, hv1'⟩, hk1, hk1', s1, m1⟩
  have HR1 := hid (show BytesRel w sb a len cap zs k v1 (.slice (some ⟨w.heap.size, 0, none⟩) 0 0) [] w1 from
    ⟨own_moved HL0.out hsb m1, by omega, by omega, by simp; omega, ⟨k1, hk1, by omega, s1⟩, HM0.out.trans m1⟩)
  clear s1 m1
  go_wp2_with fail
  go_loopw [3, 4] (fun v c wr => ∃ (j : Int) (xs : List Int), c = .int .i64 j ∧ BytesRel w sb a len cap zs k j v xs wr) (fun _ c _ => (intOf c + 1).toNat)
  case atStart => exact ⟨v1, [], rfl, HR1.out⟩
  case round =>
    obtain ⟨j, xs, rfl, hrel⟩ := hrel
    have HR := hid hrel
    have hj0 := hrel.j0
    have hj1 := hrel.j1
    have hxl := hrel.xlen
    have hzr := hrel.mov.size
    obtain ⟨k2, hk2, hk2', s2⟩ := hrel.src
    have HS2 := hid s2
    clear hrel s2 HR1
    by_cases hj : 0 ≤ j
    · go_wp2_with fail
      refine (pick_c 4 sb a len cap zs k2 _ HS2.out (by omega) (by omega)).mono ?_
      rintro e w3 ⟨v3, k3, rfl, ⟨hv3, hv3'⟩, hk3, hk3', s3, m3⟩
      have HS3 := hid s3
      have HO3 := hid (own_moved HR.out.own hsb m3)
      have HM3 := hid (HR.out.mov.trans m3)
      have hz3 := m3.size
      clear s3 m3
      by_cases hv : v3 = 0
      · subst hv
        go_wp2_with fail
        refine (pick_c 256 sb a len cap zs k3 _ HS3.out (by omega) (by omega)).mono ?_
        rintro e w4 ⟨v4, k4, rfl, ⟨hv4, hv4'⟩, hk4, hk4', s4, m4⟩
        have HS4 := hid s4
        have HO4 := hid (own_moved HO3.out hsb m4)
        have HM4 := hid (HM3.out.trans m4)
        have hz4 := m4.size
        clear s4 m4
        go_wp2_with (at_builtin; refine app_ints _ rfl _ _ rfl w.heap.size xs [v4] _ rfl (HO4.out.alloc _) _ _ _ rfl rfl (SrcAt.at_ _ [v4] #[.int .i64 v4] _ 1 rfl (by simp) rfl) (by simp; omega) (by simp; omega) ?_)
        intro v5 w5 hg5
        have HR5 := hid (show BytesRel w sb a len cap zs k (j - 1) v5 (xs ++ [v4]) w5 from
          ⟨hg5.own, by omega, by omega, by rw [List.length_append]; simp; omega, ⟨k4, by omega, by omega, (HS4.out.alloc _).below hg5.bel hsb⟩, (HM4.out.alloc _).grow hg5.bel (Nat.le_refl _)⟩)
        clear hg5
        go_wp2_with fail
        go_roundw
        case rel => exact ⟨j - 1, xs ++ [v4], by go_num, HR5.out⟩
        case measure => simp [intOf]; omega
      · have hv' : (v3 == 0) = false := by simpa using hv
        go_wp2_with fail
        refine (pick_c 31 sb a len cap zs k3 _ HS3.out (by omega) (by omega)).mono ?_
        rintro e w4 ⟨v4, k4, rfl, ⟨hv4, hv4'⟩, hk4, hk4', s4, m4⟩
        have HS4 := hid s4
        have HO4 := hid (own_moved HO3.out hsb m4)
        have HM4 := hid (HM3.out.trans m4)
        have hz4 := m4.size
        clear s4 m4
        obtain ⟨sx, cx, rfl⟩ := own_slice HO4.out
        go_wp2_with fail
        refine (ins_c v4 xs.length hv4 (by omega) (by omega) (by omega) sb a len cap zs k4 _ HS4.out (by omega)).mono ?_
        rintro e w5 ⟨i, k5, rfl, ⟨hsm, hop, hval⟩, hk5, hk5', s5, m5⟩
        have HV := hid (hval (by omega))
        have HS5 := hid s5
        have HO5 := hid (own_moved HO4.out hsb m5)
        have HM5 := hid (HM4.out.trans m5)
        have hz5 := m5.size
        clear s5 m5 hsm hop hval
        go_wp2_with fail
        refine (put_c i xs.length HV.out (by omega) (by omega) _).mono ?_
        rintro e w6 ⟨v6, rfl, hb6, hnil, hown⟩
        have hpl := sput_len (i := i) (at_ := (xs.length : Int)) HV.out (by omega) (by omega)
        obtain ⟨o, ho⟩ : ∃ o, sput i (xs.length : Int) = o := ⟨_, rfl⟩
        rw [ho] at hnil hown hpl ⊢
        have HP6 := hid (PutPost.reads hnil hown)
        have HS6 := hid (HS5.out.on hb6)
        have HO6 := hid (own_on HO5.out hb6)
        have HM6 := hid (HM5.out.on hb6)
        have hz6 := hb6.size
        clear hb6 hnil hown ho
        cases o with
        | none =>
          have HR7 := hid (show BytesRel w sb a len cap zs k (j - 1) (.slice sx xs.length cx) xs w6 from
            ⟨HO6.out, by omega, by omega, by omega, ⟨k5, by omega, by omega, HS6.out⟩, HM6.out⟩)
          go_wp2_with fail
          go_roundw
          case rel => exact ⟨j - 1, xs, by go_num, HR7.out⟩
          case measure => simp [intOf]; omega
        | some l =>
          simp only [Option.getD_some] at HP6 hpl
          obtain ⟨sl, cl, rfl⟩ := own_slice HP6.out
          have HSr := hid (SrcAt.of_rd (.of_own HP6.out))
          go_wp2_with (at_builtin; refine app_ints _ rfl _ _ rfl w.heap.size xs l _ rfl HO6.out _ _ _ rfl rfl HSr.out (by omega) (by omega) ?_)
          intro v7 w7 hg7
          have HR7 := hid (show BytesRel w sb a len cap zs k (j - 1) v7 (xs ++ l) w7 from
            ⟨hg7.own, by omega, by omega, by rw [List.length_append]; omega, ⟨k5, by omega, by omega, HS6.out.below hg7.bel hsb⟩, HM6.out.grow hg7.bel (Nat.le_refl _)⟩)
          clear hg7
          go_wp2_with fail
          go_roundw
          case rel => exact ⟨j - 1, xs ++ l, by go_num, HR7.out⟩
          case measure => simp [intOf]; omega
    · go_wp2_with fail
      refine (pick_c 2 sb a len cap zs k2 _ HS2.out (by omega) (by omega)).mono ?_
      rintro e w3 ⟨v3, k3, rfl, ⟨hv3, hv3'⟩, hk3, hk3', s3, m3⟩
      have HS3 := hid s3
      have HO3 := hid (own_moved HR.out.own hsb m3)
      have HM3 := hid (HR.out.mov.trans m3)
      have hz3 := m3.size
      clear s3 m3
      go_wp2_with (at_builtin; refine app_ints _ rfl _ _ rfl w.heap.size xs [v3] _ rfl (HO3.out.alloc _) _ _ _ rfl rfl (SrcAt.at_ _ [v3] #[.int .i64 v3] _ 1 rfl (by simp) rfl) (by simp; omega) (by simp; omega) ?_)
      intro v5 w5 hg5
      have HG := hid hg5.own
      have HSe := hid ((HS3.out.alloc (.cells #[.int .i64 v3] 3)).below hg5.bel hsb)
      have HMe := hid ((HM3.out.alloc (.cells #[.int .i64 v3] 3)).grow hg5.bel (Nat.le_refl _))
      clear hg5
      go_wp2_with fail
      go_ret
      exact ⟨_, xs ++ [v3], k3, rfl, HG.out, by simp, by rw [List.length_append]; simp; omega, by omega, by omega, HSe.out, HMe.out⟩
theorem drawInsAt_c (a : Option Addr) (len cap : Nat) (zs : List Int) (w : World) (hB : Bytes w a len zs) :
    Calls Try.prog 27 #[.slice a len cap] w fun e w' => ∃ (v : Value) (xs : List Int) (at_ : Int), e = .returned (.tuple #[v, .int .i64 at_]) ∧ w'.ownsRow w.heap.size 3 1 v xs.length (ints xs) ∧ xs.length ≤ 100 ∧ -2 ≤ at_ ∧ at_ ≤ 100 ∧ Below w.heap.size w w' := by
  have H := hid hB
  clear hB
  go_enter Try.func27, Try.ntmps27
  go_wp2_with fail
  refine (from_c a len cap zs w H.out).mono ?_
  rintro e w1 ⟨sb, rfl, hsb, s1, b1⟩
  have S1 := hid s1
  have B1 := hid b1
  clear s1 b1
  go_wp2_with fail
  refine (bytes_c sb a len cap zs 0 w1 S1.out (by omega)).mono ?_
  rintro e w2 ⟨v, xs, k2, rfl, hown, hx1, hx2, hk2, hk2', s2, m2⟩
  obtain ⟨sx, cx, rfl⟩ := own_slice hown
  have S2 := hid s2
  have hsb1 := S1.out.here
  have HO2 := hid hown
  have B2 := hid (m2.below B1.out hsb B1.out.size)
  have hz2 := m2.size
  clear s2 m2 hown
  go_wp2_with fail
  refine (pick_c xs.length sb a len cap zs k2 w2 S2.out (by omega) (by omega)).mono ?_
  rintro e w3 ⟨v3, k3, rfl, ⟨hv3, hv3'⟩, hk3, hk3', s3, m3⟩
  have S3 := hid s3
  have HO3 := hid (own_moved HO2.out hsb1 m3)
  have hz3 := m3.size
  have B3 := hid (m3.below B2.out hsb B2.out.size)
  clear s3 m3
  go_wp2_with fail
  refine (pick_c 20 sb a len cap zs k3 w3 S3.out (by omega) (by omega)).mono ?_
  rintro e w4 ⟨v4, k4, rfl, ⟨hv4, hv4'⟩, hk4, hk4', s4, m4⟩
  have HO4 := hid (own_moved HO3.out hsb1 m4)
  have B4 := hid (m4.below B3.out hsb B3.out.size)
  clear s4 m4
  go_wp2_with fail
  go_ret2
  exact ⟨_, xs, _, rfl, own_mono HO4.out B1.out.size, hx2, by omega, by omega, B4.out⟩
end Go.Proofs.Ytihhpgklpichgab.Src
