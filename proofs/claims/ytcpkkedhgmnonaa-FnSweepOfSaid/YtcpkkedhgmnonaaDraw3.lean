/- The draws of instructions (anyIns, DrawInsOk, DrawInsLong): what they return · The draws of InsOk and InsPut · The draw of InsAt: bytes, DrawInsAt. -/
import Derived.Test.YtcpkkedhgmnonaaDraw2
import Derived.Test.YtcpkkedhgmnonaaC2v
import Derived.Test.YtcpkkedhgmnonaaApp
import Derived.Test.YtcpkkedhgmnonaaL2b
set_option linter.unusedSimpArgs false
set_option linter.unusedVariables false
namespace Go.Proofs.Ytcpkkedhgmnonaa.Src
open Go.RowKit Pl Ft Mm C2

end Go.Proofs.Ytcpkkedhgmnonaa.Src
namespace Go.Proofs.Ytcpkkedhgmnonaa.Src
open Go.RowKit Pl Ft Mm C2

theorem results_cell_tmp2 {fn : Func} {p r : Tmp} {t : TypeId} (h : fn.results = #[.cell p t, .tmp r]) (tmps : Array Value) (w : World) (g : Nat) (cs : Array Value) (fs : Array Field)
    (hp : tmps.getD p undef = .pointer (some ⟨g, 0, none⟩)) (h1 : Row w g t cs) (hu : Try.prog.underlying t = some (.struct fs)) (hi : (Try.prog.info? t).map (·.size) = some cs.size) :
    (results fn tmps).run Try.prog w = .ok (.tuple #[.agg cs, tmps.getD r undef]) w := by
  have hp' : tmps[p]?.getD undef = .pointer (some ⟨g, 0, none⟩) := by simpa using hp
  simp [results, h, hp', asAddr, run_loadVar_row w g t t cs (0, 0) _ h1 hu rfl hi]
end Go.Proofs.Ytcpkkedhgmnonaa.Src
namespace Go.Proofs.Ytcpkkedhgmnonaa.Src
open Go.RowKit Pl Ft Mm C2 In Im

theorem Src.below {sb B : Nat} {a : Option Addr} {len cap : Nat} {zs : List Int} {k : Int} {w w' : World} (h : Src w sb a len cap zs k) (hb : Below B w w') (hB : sb < B) : Src w' sb a len cap zs k := by
  refine ⟨?_, ?_, ?_, h.lo, ⟨h.bytes.small, ?_, h.bytes.range⟩, h.apart, Nat.lt_of_lt_of_le h.here hb.size⟩
  · rw [hb.cell (p := ⟨sb, 0, none⟩) hB]; exact h.code
  · rw [hb.cell (p := ⟨sb, 1, none⟩) hB]; exact h.at_
  · rw [hb.frozen (p := ⟨sb, 1, none⟩) hB]; exact h.free
  · rcases h.bytes.cells with h0 | ⟨b, o, e, hlt, hc⟩
    · exact .inl h0
    · by_cases hl : len = 0
      · exact .inl hl
      · have hbs := h.apart b o e (by omega)
        refine .inr ⟨b, o, e, Nat.lt_of_lt_of_le hlt hb.size, fun i hi => ?_⟩
        rw [hb.cell (p := ⟨b, o + i, none⟩) (show b < B by omega)]
        exact hc i hi
theorem Moved.grow {sb B : Nat} {a w w' : World} (h : Moved sb a w) (hb : Below B w w') (hB : a.heap.size ≤ B) : Moved sb a w' :=
  ⟨hb.os.trans h.os, hb.tape.trans h.tape, hb.output.trans h.output, Nat.le_trans h.size hb.size, fun k hk hn => (hb.block k (by omega)).trans (h.block k hk hn)⟩
theorem own_moved {sb : Nat} {w w' : World} {base : Nat} {e : TypeId} {size : Nat} {v : Value} {n : Nat} {xs : List Value} (h : w.ownsRow base e size v n xs) (hv : sb < base) (m : Moved sb w w') : w'.ownsRow base e size v n xs := by
  refine ⟨h.1, ?_⟩
  rcases h.2 with h0 | ⟨g, cap, cur, rfl, hg, hr, hrest⟩
  · exact .inl h0
  · exact .inr ⟨g, cap, cur, rfl, hg, (m.block g (Array.getElem?_eq_some_iff.1 hr).1 (by omega)).trans hr, hrest⟩
theorem sput_len {i : IIns} {at_ : Int} (hv : validIns i = true) (h0 : 0 ≤ at_) (h1 : at_ ≤ 1999) : ((sput i at_).getD []).length ≤ 5 := by
  have h := sput_eq i at_
  have hin : inRange at_ 0 1999 = true := by simp [inRange]; omega
  rw [hv, hin] at h
  have e : sput i at_ = insPut i at_ := by rw [← h]; rfl
  cases ho : sput i at_ with
  | none => simp
  | some l => exact insPut_len (by rw [← e]; exact ho)
/-- The rounds of bytes. -/
structure BytesRel (w : World) (sb : Nat) (a : Option Addr) (len cap : Nat) (zs : List Int) (k : Int) (j : Int) (v : Value) (xs : List Int) (wr : World) : Prop where
  own : wr.ownsRow w.heap.size 3 1 v xs.length (ints xs)
  j0 : -1 ≤ j
  j1 : j ≤ 13
  xlen : (xs.length : Int) ≤ 5 * (13 - j)
  src : ∃ k' : Int, k ≤ k' ∧ k' ≤ k + 2 + 30 * (13 - j) ∧ Src wr sb a len cap zs k'
  mov : Moved sb w wr
def GotBytes (sb : Nat) (a : Option Addr) (len cap : Nat) (zs : List Int) (k : Int) (w : World) (e : Ending) (w' : World) : Prop :=
  ∃ (v : Value) (xs : List Int) (k' : Int), e = .returned v ∧ w'.ownsRow w.heap.size 3 1 v xs.length (ints xs) ∧ 1 ≤ xs.length ∧ xs.length ≤ 100 ∧ k ≤ k' ∧ k' ≤ k + 500 ∧ Src w' sb a len cap zs k' ∧ Moved sb w w'
set_option maxRecDepth 100000 in
set_option maxHeartbeats 2000000 in
theorem bytes_c (sb : Nat) (a : Option Addr) (len cap : Nat) (zs : List Int) (k : Int) (w : World) (h : Src w sb a len cap zs k) (hk : k ≤ 999990000) :
    Calls Try.prog 35 #[.pointer (some ⟨sb, 0, none⟩)] w (GotBytes sb a len cap zs k w) := by
  have HS := hid h
  have hsb := h.here
  have HS0 := hid (h.alloc (.cells #[] 3))
  have HM0 := hid ((Moved.refl sb w).alloc (.cells #[] 3))
  have HL0 := hid (own_lit w [] #[] rfl (by simp) 0 rfl)
  clear h
  go_enter Try.func35, Try.ntmps35
  go_wp2_with fail
  refine (pick_c 14 sb a len cap zs k _ HS0.out (by omega) (by omega)).mono ?_
  rintro e w1 ⟨v1, k1, rfl, ⟨hv1, hv1'⟩, hk1, hk1', s1, m1⟩
  have HR1 := hid (show BytesRel w sb a len cap zs k v1 (.slice (some ⟨w.heap.size, 0, none⟩) 0 0) [] w1 from
    ⟨own_moved HL0.out hsb m1, by omega, by omega, by simp; omega, ⟨k1, hk1, by omega, s1⟩, HM0.out.trans m1⟩)
  clear s1 m1
  go_wp2_with fail
  go_loopw [3, 4] (fun v c wr => ∃ (j : Int) (xs : List Int), c = .int .i64 j ∧ BytesRel w sb a len cap zs k j v xs wr) (fun _ c _ => (intOf c + 1).toNat)
  case atStart => exact ⟨v1, [], rfl, HR1.out⟩
  case round =>
    obtain ⟨j, xs, rfl, hrel⟩ := hrel
    have HR := hid hrel
    have hj0 := hrel.j0
    have hj1 := hrel.j1
    have hxl := hrel.xlen
    have hzr := hrel.mov.size
    obtain ⟨k2, hk2, hk2', s2⟩ := hrel.src
    have HS2 := hid s2
    clear hrel s2 HR1
    by_cases hj : 0 ≤ j
    · go_wp2_with fail
      refine (pick_c 4 sb a len cap zs k2 _ HS2.out (by omega) (by omega)).mono ?_
      rintro e w3 ⟨v3, k3, rfl, ⟨hv3, hv3'⟩, hk3, hk3', s3, m3⟩
      have HS3 := hid s3
      have HO3 := hid (own_moved HR.out.own hsb m3)
      have HM3 := hid (HR.out.mov.trans m3)
      have hz3 := m3.size
      clear s3 m3
      by_cases hv : v3 = 0
      · subst hv
        go_wp2_with fail
        refine (pick_c 256 sb a len cap zs k3 _ HS3.out (by omega) (by omega)).mono ?_
        rintro e w4 ⟨v4, k4, rfl, ⟨hv4, hv4'⟩, hk4, hk4', s4, m4⟩
        have HS4 := hid s4
        have HO4 := hid (own_moved HO3.out hsb m4)
        have HM4 := hid (HM3.out.trans m4)
        have hz4 := m4.size
        clear s4 m4
        go_wp2_with (at_builtin; refine app_ints _ rfl _ _ rfl w.heap.size xs [v4] _ rfl (HO4.out.alloc _) _ _ _ rfl rfl (SrcAt.at_ _ [v4] #[.int .i64 v4] _ 1 rfl (by simp) rfl) (by simp; omega) (by simp; omega) ?_)
        intro v5 w5 hg5
        have HR5 := hid (show BytesRel w sb a len cap zs k (j - 1) v5 (xs ++ [v4]) w5 from
          ⟨hg5.own, by omega, by omega, by rw [List.length_append]; simp; omega, ⟨k4, by omega, by omega, (HS4.out.alloc _).below hg5.bel hsb⟩, (HM4.out.alloc _).grow hg5.bel (Nat.le_refl _)⟩)
        clear hg5
        go_wp2_with fail
        go_roundw
        case rel => exact ⟨j - 1, xs ++ [v4], by go_num, HR5.out⟩
        case measure => simp [intOf]; omega
      · have hv' : (v3 == 0) = false := by simpa using hv
        go_wp2_with fail
        refine (pick_c 31 sb a len cap zs k3 _ HS3.out (by omega) (by omega)).mono ?_
        rintro e w4 ⟨v4, k4, rfl, ⟨hv4, hv4'⟩, hk4, hk4', s4, m4⟩
        have HS4 := hid s4
        have HO4 := hid (own_moved HO3.out hsb m4)
        have HM4 := hid (HM3.out.trans m4)
        have hz4 := m4.size
        clear s4 m4
        obtain ⟨sx, cx, rfl⟩ := own_slice HO4.out
        go_wp2_with fail
        refine (ins_c v4 xs.length hv4 (by omega) (by omega) (by omega) sb a len cap zs k4 _ HS4.out (by omega)).mono ?_
        rintro e w5 ⟨i, k5, rfl, ⟨hsm, hop, hval⟩, hk5, hk5', s5, m5⟩
        have HV := hid (hval (by omega))
        have HS5 := hid s5
        have HO5 := hid (own_moved HO4.out hsb m5)
        have HM5 := hid (HM4.out.trans m5)
        have hz5 := m5.size
        clear s5 m5 hsm hop hval
        go_wp2_with fail
        refine (put_c i xs.length HV.out (by omega) (by omega) _).mono ?_
        rintro e w6 ⟨v6, rfl, hb6, hnil, hown⟩
        have hpl := sput_len (i := i) (at_ := (xs.length : Int)) HV.out (by omega) (by omega)
        obtain ⟨o, ho⟩ : ∃ o, sput i (xs.length : Int) = o := ⟨_, rfl⟩
        rw [ho] at hnil hown hpl ⊢
        have HP6 := hid (PutPost.reads hnil hown)
        have HS6 := hid (HS5.out.on hb6)
        have HO6 := hid (own_on HO5.out hb6)
        have HM6 := hid (HM5.out.on hb6)
        have hz6 := hb6.size
        clear hb6 hnil hown ho
        cases o with
        | none =>
          have HR7 := hid (show BytesRel w sb a len cap zs k (j - 1) (.slice sx xs.length cx) xs w6 from
            ⟨HO6.out, by omega, by omega, by omega, ⟨k5, by omega, by omega, HS6.out⟩, HM6.out⟩)
          go_wp2_with fail
          go_roundw
          case rel => exact ⟨j - 1, xs, by go_num, HR7.out⟩
          case measure => simp [intOf]; omega
        | some l =>
          simp only [Option.getD_some] at HP6 hpl
          obtain ⟨sl, cl, rfl⟩ := own_slice HP6.out
          have HSr := hid (SrcAt.of_rd (.of_own HP6.out))
          go_wp2_with (at_builtin; refine app_ints _ rfl _ _ rfl w.heap.size xs l _ rfl HO6.out _ _ _ rfl rfl HSr.out (by omega) (by omega) ?_)
          intro v7 w7 hg7
          have HR7 := hid (show BytesRel w sb a len cap zs k (j - 1) v7 (xs ++ l) w7 from
            ⟨hg7.own, by omega, by omega, by rw [List.length_append]; omega, ⟨k5, by omega, by omega, HS6.out.below hg7.bel hsb⟩, HM6.out.grow hg7.bel (Nat.le_refl _)⟩)
          clear hg7
          go_wp2_with fail
          go_roundw
          case rel => exact ⟨j - 1, xs ++ l, by go_num, HR7.out⟩
          case measure => simp [intOf]; omega
    · go_wp2_with fail
      refine (pick_c 2 sb a len cap zs k2 _ HS2.out (by omega) (by omega)).mono ?_
      rintro e w3 ⟨v3, k3, rfl, ⟨hv3, hv3'⟩, hk3, hk3', s3, m3⟩
      have HS3 := hid s3
      have HO3 := hid (own_moved HR.out.own hsb m3)
      have HM3 := hid (HR.out.mov.trans m3)
      have hz3 := m3.size
      clear s3 m3
      go_wp2_with (at_builtin; refine app_ints _ rfl _ _ rfl w.heap.size xs [v3] _ rfl (HO3.out.alloc _) _ _ _ rfl rfl (SrcAt.at_ _ [v3] #[.int .i64 v3] _ 1 rfl (by simp) rfl) (by simp; omega) (by simp; omega) ?_)
      intro v5 w5 hg5
      have HG := hid hg5.own
      have HSe := hid ((HS3.out.alloc (.cells #[.int .i64 v3] 3)).below hg5.bel hsb)
      have HMe := hid ((HM3.out.alloc (.cells #[.int .i64 v3] 3)).grow hg5.bel (Nat.le_refl _))
      clear hg5
      go_wp2_with fail
      go_ret
      exact ⟨_, xs ++ [v3], k3, rfl, HG.out, by simp, by rw [List.length_append]; simp; omega, by omega, by omega, HSe.out, HMe.out⟩
end Go.Proofs.Ytcpkkedhgmnonaa.Src
