/- The walk of the program: meet. -/
import Derived.Test.YtihhpgklpichgaaGreatWy3
import Derived.Test.YtihhpgklpichgaaGreatTb
import Derived.Test.YtihhpgklpichgaaGreatRf
set_option linter.unusedSimpArgs false
set_option linter.unusedVariables false
namespace Go.Proofs.YtihhpgklpichgaaGreat.Wk
open Go.RowKit Pl Ft Mm In C2 Im Sw

/-- What is met at a place: what was met, whether anything was lost, and where it leads. -/
def meetP (code : List Int) (ms : List Nat) (lost : Bool) (p : Nat) : List Nat × Bool × List Int :=
  match readP code p with | none => (ms, true, []) | some i => (ms ++ [p], lost || badTab code i, succs code i (p + slong i))
def MeetPost (r : List Nat × Bool × List Int) (code : List Int) (vc : Value) (gw gm : Nat) (w : World) (e : Ending) (w' : World) : Prop :=
  ∃ v, e = .returned v ∧ w'.ownsRow w.heap.size 3 1 v r.2.2.length (ints r.2.2) ∧ Row w' gw 88 #[vc, .map (some gm), .bool r.2.1] ∧ MapAt w' gm code r.1 ∧ Only (fun g => g = gw ∨ g = gm) w w'
theorem map_ne {w : World} {gw gm : Nat} {cs : Array Value} {t : TypeId} {code : List Int} {ms : List Nat} (h : Row w gw t cs) (hm : MapAt w gm code ms) : gw ≠ gm := by
  rintro rfl
  have := h.symm.trans hm
  simp at this
def insOf (code : List Int) (ms : List Nat) : List Nat := ms.filter fun p => (readP code p).isSome
def badAt (code : List Int) (p : Nat) : Bool := match readP code p with | none => true | some i => badTab code i
def lostIn (code : List Int) (ms : List Nat) : Bool := ms.any (badAt code)
/-- Where a place leads, calls among it. -/
def Gw (code : List Int) (p : Nat) : List Int := match readP code p with | none => [] | some i => succs code i (p + slong i)
theorem insOf_push (code : List Int) (ms : List Nat) (p : Nat) : insOf code (ms ++ [p]) = (match readP code p with | none => insOf code ms | some _ => insOf code ms ++ [p]) := by
  unfold insOf
  rw [List.filter_append]
  cases h : readP code p <;> simp [h]
theorem lostIn_push (code : List Int) (ms : List Nat) (p : Nat) : lostIn code (ms ++ [p]) = (lostIn code ms || badAt code p) := by simp [lostIn]
theorem meetP_eq (code : List Int) (ms : List Nat) (p : Nat) : meetP code (insOf code ms) (lostIn code ms) p = (insOf code (ms ++ [p]), lostIn code (ms ++ [p]), Gw code p) := by
  rw [insOf_push, lostIn_push]
  unfold meetP Gw badAt
  cases readP code p <;> simp
theorem mem_insOf {code : List Int} {ms : List Nat} {p : Nat} : p ∈ insOf code ms ↔ p ∈ ms ∧ (readP code p).isSome = true := by simp [insOf]
theorem gw_bd {code : List Int} (hb : code.all isByte = true) (hlen : code.length ≤ 2000) {e : Nat} (he : e ≤ 2000) : GBd (Gw code) [(e : Int)] 100000 9 where
  st q hq := by
    obtain rfl : q = (e : Int) := by simpa using hq
    omega
  bd p hp q hq := by
    unfold Gw at hq
    cases hr : readP code p with
    | none => rw [hr] at hq; cases hq
    | some i =>
      rw [hr] at hq
      have hf := readP_facts hr
      exact succs_bd hb hf.2.1 (next := (p : Int) + slong i) (by omega) q hq
  len p hp := by
    unfold Gw
    cases hr : readP code p with
    | none => simp
    | some i =>
      have hf := readP_facts hr
      by_cases h30 : i.op = 30
      · exact succs_len code i _ (valid_b hf.2.1 h30)
      · simp only
        unfold succs
        rw [if_neg h30]
        repeat' split
        all_goals simp
/-- A block that was laid just now. -/
theorem new_ex (w : World) (t : TypeId) (cs : Array Value) : ∃ w2, w.alloc (.cells cs t) = w2 ∧ Row w2 w.heap.size t cs ∧ Below w.heap.size w w2 ∧ w.heap.size < w2.heap.size :=
  ⟨_, rfl, Row.new w t cs, (Below.refl _ _).alloc (Nat.le_refl _) _, by simp⟩
set_option maxRecDepth 100000 in
set_option maxHeartbeats 4000000 in
theorem meet_c (code : List Int) (vc : Value) (gw gm : Nat) (ms : List Nat) (lost : Bool) (p : Nat) (w0 w : World) (h : Row w gw 88 #[vc, .map (some gm), .bool lost]) (hm : MapAt w gm code ms) (hin : p ∉ ms)
    (hr : Rd w0 vc code) (hcap : ∀ a n c, vc = .slice a n c → n ≤ c) (hb0 : Below w0.heap.size w0 w) (hgw : w0.heap.size ≤ gw) (hgm : w0.heap.size ≤ gm) (hb : code.all isByte = true) (hlen : code.length ≤ 2000) (hp : p ≤ 100000000) :
    Calls Tryz.prog 91 #[.pointer (some ⟨gw, 0, none⟩), .int .i64 p] w (MeetPost (meetP code ms lost p) code vc gw gm w) := by
  have HW := hid h
  have HM := hid hm
  have HRd := hid hr
  have HCap := hid hcap
  have HBy := hid hb
  have HB00 := hid hb0
  have hne := map_ne h hm
  have hzw := h.lt
  have hzm := hm.lt
  obtain ⟨a, cap, rfl, _⟩ := hr
  clear hcap hb h hm hb0
  have y1 := HW.out.cell 1
  have y0 := HW.out.cell 0
  have y2 := HW.out.cell 2
  simp at y0 y1 y2
  have HIn := hid hin
  clear hin
  go_enter Tryz.func91, Tryz.ntmps91
  go_wp2_with fail
  refine (readAt_c code _ p _ (HRd.out.on HB00.out) HCap.out HBy.out hlen hp).mono ?_
  rintro e w1 ⟨rfl, hb1⟩
  have HB2 := hid hb1
  have HW2 := hid (HW.out.on hb1)
  have HM2 := hid (HM.out.on hb1)
  have hz1 := HB2.out.size
  clear hb1 y0 y1 y2
  cases ho : readP code p with
  | none =>
    have HE := hid (show meetP code ms lost p = (ms, true, []) by unfold meetP; rw [ho])
    rw [rdVal_no ho]
    unfold z5
    clear ho
    go_upto_region 2 with fail
    obtain ⟨wb, hwb, _, hbb, hzb⟩ := new_ex w1 112 #[.int .i64 0, .int .i64 0, .int .i64 0, .int .i64 0, .int .i64 0]
    rw [hwb]
    have HB3 := hid (HB2.out.trans (hbb.mono HB2.out.size))
    have HW3 := hid (HW2.out.on hbb)
    have HM3 := hid (HM2.out.on hbb)
    clear hwb hbb
    have y2 := HW3.out.cell 2
    have hf := HW3.out.free
    simp at y2
    go_wp2_with fail
    go_ret
    rw [HE.out]
    exact ⟨_, rfl, World.ownsRow_nil _ _ _ _, HW3.out.set 2 (.bool true), HM3.out.set (by simp only; omega) _, .trans (.of_below HB3.out) ((Only.refl (fun g => g = gw ∨ g = gm) _).setCell (g := gw) (.inl rfl) 2 _)⟩
  | some i =>
    have HE := hid (show meetP code ms lost p = (ms ++ [p], lost || badTab code i, succs code i (p + slong i)) by unfold meetP; rw [ho])
    have hf := readP_facts ho
    have HV := hid hf.2.1
    have HRo := hid (show rdOf code p = rdArr i (p + slong i) by unfold rdOf nextP; rw [ho]; rfl)
    rw [rdVal_some ho]
    have HTl := hid (show i.op = 30 → ((tabP code i).getD []).length ≤ 1000000 from fun h30 => by have := tab_len (code := code) (valid_b hf.2.1 h30); omega)
    obtain ⟨op, ia, ib, n⟩ := i
    obtain ⟨x, hx⟩ : ∃ x, (p : Int) + slong ⟨op, ia, ib, n⟩ = x := ⟨_, rfl⟩
    rw [hx] at HE HRo ⊢
    have HRo2 := hid (show (Value.agg #[.int .i64 op, .int .i64 ia, .int .i64 ib, .int .i64 n, .int .i64 x]) = .agg (rdOf code p) by rw [HRo.out]; rfl)
    clear ho hf hx
    unfold rdArr
    simp only
    go_upto_region 5 with fail
    obtain ⟨wb, hwb, hrb, hbb, hzb⟩ := new_ex w1 112 #[.int .i64 op, .int .i64 ia, .int .i64 ib, .int .i64 n, .int .i64 x]
    rw [hwb]
    have HB3 := hid (HB2.out.trans (hbb.mono HB2.out.size))
    have HW3 := hid (HW2.out.on hbb)
    have HM3 := hid (HM2.out.on hbb)
    clear hwb hbb
    obtain ⟨g7, hg7⟩ : ∃ g, w1.heap.size = g := ⟨_, rfl⟩
    rw [hg7] at hrb
    try rw [hg7]
    have HR3 := hid hrb
    have hne7 := map_ne hrb HM3.out
    have x0 := hrb.cell 0
    have x1 := hrb.cell 1
    have x2 := hrb.cell 2
    have x3 := hrb.cell 3
    have x4 := hrb.cell 4
    have y1 := HW3.out.cell 1
    simp at x0 x1 x2 x3 x4 y1
    clear hrb
    have hput := run_put (w := wb.drew) (show MapAt wb.drew gm code ms from HM3.out) HIn.out
    rw [← HRo2.out] at hput
    have hm4 := setMap_at (w := wb.drew) (code := code) (show gm < wb.drew.heap.size from HM3.out.lt) (ms ++ [p])
    have ho4 := setMap_only wb.drew gm code (ms ++ [p])
    go_region
    all_goals
      clear hput x0 x1 x2 x3 x4 y1
      generalize setMap wb.drew gm code (ms ++ [p]) = w4 at hm4 ho4 ⊢
      have HM4 := hid hm4
      have HW4 := hid (row_only (show Row wb.drew gw 88 _ from HW3.out) (fun h => hne h) ho4)
      have HR4 := hid (row_only (show Row wb.drew g7 112 _ from HR3.out) (fun h => hne7 h) ho4)
      have HO4 := hid (Only.trans (p := fun g => g = gw ∨ g = gm) (.of_below HB3.out) (Only.trans (.of_below (Below.refl _ _).drew) (ho4.mono (fun _ h => .inr h))))
      have hz4 := ho4.size
      clear hm4 ho4
      have HB4 := hid (HB00.out.trans (HO4.out.below (B := w0.heap.size) HB00.out.size (fun k hk => by rcases hk with rfl | rfl <;> assumption)))
      have x0 := HR4.out.cell 0
      have x1 := HR4.out.cell 1
      have x2 := HR4.out.cell 2
      have x3 := HR4.out.cell 3
      have x4 := HR4.out.cell 4
      have y0 := HW4.out.cell 0
      simp at x0 x1 x2 x3 x4 y0
      go_upto_region 6 with fail
      go_region_law (first
        | (go_simp; go_at_call 100; refine (exitOf_c code _ ⟨op, ia, ib, n⟩ x w4.drew (HRd.out.on HB4.out.drew) HCap.out HBy.out hlen HV.out).mono ?_; rintro e w5 ⟨tv, rfl, hown5, hb5⟩; have HO5 := hid hown5; have HB5 := hid hb5; have HW5 := hid ((show Row w4.drew gw 88 _ from HW4.out).on hb5); clear hown5 hb5)
        | (go_simp; go_at_call 126; refine (leave_c code ⟨op, ia, ib, n⟩ x gw _ (.map (some gm)) lost w4.drew.heap.size tv w5 HW5.out HO5.out HTl.out HW4.out.lt).mono ?_; rintro e w6 ⟨v6, rfl, hown6, hrow6, ho6⟩; obtain ⟨s6, c6, rfl⟩ := own_slice hown6; have HO6 := hid hown6; have HW6 := hid hrow6; have HN6 := hid ho6; clear hown6 hrow6 ho6))
      all_goals
        go_wp2_with fail
        go_ret
        rw [HE.out]
        have HT := Only.trans (p := fun g => g = gw ∨ g = gm) HO4.out (Only.trans (.of_below ((Below.refl _ _).drew.trans HB5.out)) (HN6.out.mono (fun _ h => .inl h)))
        exact ⟨_, rfl, own_mono HO6.out (by have h1 := HO4.out.size; have h2 := HB5.out.size; simp only [World.drew] at h2; omega), HW6.out, (HM4.out.on ((Below.refl _ _).drew.trans HB5.out)).only (fun h => hne h.symm) HN6.out, HT⟩
/-- The state of a walk of which all places were asked. -/
def WkI (code : List Int) (vc : Value) (gw gm : Nat) (w0 : World) (ms : List Nat) (w : World) : Prop :=
  Row w gw 88 #[vc, .map (some gm), .bool (lostIn code ms)] ∧ MapAt w gm code (insOf code ms) ∧ Below w0.heap.size w0 w
theorem gw_bd0 {code : List Int} (hb : code.all isByte = true) (hlen : code.length ≤ 2000) {p : Nat} (hp : p < 100001) : natI (toL (Gw code) p) = Gw code p :=
  natI_toN (fun q hq => ((gw_bd hb hlen (e := 0) (by omega)).bd p (by omega) q hq).1)
theorem meet_leads (code : List Int) (vc : Value) (gw gm B : Nat) (S : List Nat) (w0 : World) (hr : Rd w0 vc code) (hcap : ∀ a n c, vc = .slice a n c → n ≤ c) (hgw : w0.heap.size ≤ gw) (hgm : w0.heap.size ≤ gm) (hgB : gw < B) (hmB : gm < B) (hb : code.all isByte = true) (hlen : code.length ≤ 2000) :
    LeadsF (toL (Gw code)) S 100001 91 #[.pointer (some ⟨gw, 0, none⟩)] #[] (fun ms T w => T = (fun k => k < B) ∧ B ≤ w.heap.size ∧ WkI code vc gw gm w0 ms w) where
  call ms T p w hI hp hin _ _ := by
    obtain ⟨rfl, hB, hrow, hmap, hbel⟩ := hI
    refine (meet_c code vc gw gm (insOf code ms) (lostIn code ms) p w0 w hrow hmap (fun h => hin (mem_insOf.1 h).1) hr hcap hbel hgw hgm hb hlen (by omega)).mono ?_
    rintro e w' ⟨v, rfl, hown, hrow2, hmap2, ho⟩
    rw [meetP_eq] at hown hrow2 hmap2
    exact ⟨v, _, rfl, by rw [gw_bd0 hb hlen hp]; exact Rd.of_own hown, fun k hk => ⟨(hown.lt k hk).1, fun h => by have := (hown.lt k hk).1; omega⟩, ⟨rfl, Nat.le_trans hB ho.size, hrow2, hmap2, hbel.trans (ho.below hbel.size (fun k hk => by rcases hk with rfl | rfl <;> assumption))⟩, fun k hk => .inl hk, ho.mono (fun k hk => by rcases hk with rfl | rfl <;> assumption)⟩
  enter xs w := by kernel_rfl
  on ms T w w' z hI hz ho := by
    obtain ⟨rfl, hB, hrow, hmap, hbel⟩ := hI
    exact ⟨rfl, Nat.le_trans hB ho.size, row_only hrow (fun h => hz _ h hgB) ho, hmap.only (fun h => hz _ h hmB) ho, hbel.trans (ho.below hbel.size (fun k hk => by
      rcases Nat.lt_or_ge k B with h | h
      · exact absurd h (hz k hk)
      · omega))⟩
  lt ms T w hI k hk := by
    obtain ⟨rfl, hB, _⟩ := hI
    exact Nat.lt_of_lt_of_le hk hB
  len p hp := by
    unfold toL
    rw [List.length_map]
    have := (gw_bd hb hlen (e := 0) (by omega)).len p (by omega)
    omega
end Go.Proofs.YtihhpgklpichgaaGreat.Wk
