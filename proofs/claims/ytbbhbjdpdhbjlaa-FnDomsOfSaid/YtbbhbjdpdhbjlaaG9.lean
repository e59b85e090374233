/- The nearest nodes on all ways, and DomsOf: the program. -/
import Derived.Test.YtbbhbjdpdhbjlaaGn
import Derived.Test.YtbbhbjdpdhbjlaaGv
set_option linter.unusedSimpArgs false
set_option linter.unusedVariables false
namespace Go.Proofs.Ytbbhbjdpdhbjlaa.Ge
open Go.RowKit Pl Ft Mm In Gp

/-- Block g holds at least N numbers: these. -/
def IAt (w : World) (g cap N : Nat) (f : Nat → Int) : Prop := ∃ cur : Array Value, Row w g 3 cur ∧ N ≤ cap ∧ cap ≤ maxLen ∧ cur.size = cap ∧ ∀ j, j < N → cur[j]? = some (.int .i64 (f j))
theorem IAt.cell {w : World} {g cap N : Nat} {f : Nat → Int} (h : IAt w g cap N f) {j : Nat} (hj : j < N) : w.cell? ⟨g, j, none⟩ = some (.int .i64 (f j)) := by
  obtain ⟨cur, hr, _, _, _, hc⟩ := h
  rw [hr.cell j]
  exact hc j hj
theorem IAt.free {w : World} {g cap N : Nat} {f : Nat → Int} (h : IAt w g cap N f) (j : Nat) : w.frozen? ⟨g, j, none⟩ = false := by
  obtain ⟨cur, hr, _⟩ := h
  exact hr.free j
theorem IAt.lt {w : World} {g cap N : Nat} {f : Nat → Int} (h : IAt w g cap N f) : g < w.heap.size := by obtain ⟨cur, hr, _⟩ := h; exact hr.lt
theorem IAt.on {w w' : World} {g cap N : Nat} {f : Nat → Int} (h : IAt w g cap N f) (hb : Below w.heap.size w w') : IAt w' g cap N f := by
  obtain ⟨cur, hr, hc⟩ := h
  exact ⟨cur, hr.on hb, hc⟩
theorem IAt.congr {w : World} {g cap N : Nat} {f f' : Nat → Int} (h : IAt w g cap N f) (he : ∀ j, j < N → f j = f' j) : IAt w g cap N f' := by
  obtain ⟨cur, hr, h1, h2, h3, hc⟩ := h
  exact ⟨cur, hr, h1, h2, h3, fun j hj => by rw [← he j hj]; exact hc j hj⟩
theorem IAt.put {w : World} {g cap N : Nat} {f : Nat → Int} (h : IAt w g cap N f) {p : Nat} (x : Int) : IAt (w.setCell ⟨g, p, none⟩ (.int .i64 x)) g cap N (fun q => if q = p then x else f q) := by
  obtain ⟨cur, hr, h1, h2, h3, hc⟩ := h
  refine ⟨_, hr.set p (.int .i64 x), h1, h2, by simpa using h3, fun j hj => ?_⟩
  by_cases hjp : j = p
  · subst hjp
    simp [show j < cur.size by omega]
  · rw [Array.getElem?_setIfInBounds_ne (fun e => hjp e.symm), hc j hj]
    show _ = some (Value.int .i64 (if j = p then x else f j))
    rw [if_neg hjp]
theorem IAt.of_own {w : World} {base N : Nat} {v : Value} {f : Nat → Int} (h : w.ownsRow base 3 1 v N (ints (cont N f))) (hn : 0 < N) : ∃ g cap, v = .slice (some ⟨g, 0, none⟩) N cap ∧ base ≤ g ∧ IAt w g cap N f := by
  rcases h.2 with ⟨_, h0⟩ | ⟨g, cap, cur, rfl, hg, hr, hnc, hm, hs, ht⟩
  · omega
  · refine ⟨g, cap, rfl, hg, cur, hr, hnc, hm, by simpa using hs, fun j hj => ?_⟩
    have h1 := congrArg (fun l => l[j]?) ht
    simp only [List.getElem?_take, Nat.mul_one, hj, if_true, ints, cont, List.getElem?_map, List.getElem?_range hj, Option.map_some] at h1
    rw [← Array.getElem?_toList]
    exact h1
theorem IAt.own {w : World} {base g cap N : Nat} {f : Nat → Int} (h : IAt w g cap N f) (hb : base ≤ g) : w.ownsRow base 3 1 (.slice (some ⟨g, 0, none⟩) N cap) N (ints (cont N f)) := by
  obtain ⟨cur, hr, h1, h2, h3, hc⟩ := h
  refine ⟨by simp [ints, cont], .inr ⟨g, cap, cur, rfl, hb, hr, h1, h2, by simpa using h3, ?_⟩⟩
  apply List.ext_getElem?
  intro j
  rw [Nat.mul_one, List.getElem?_take]
  by_cases hj : j < N
  · rw [if_pos hj, Array.getElem?_toList, hc j hj]
    simp [ints, cont, hj]
  · rw [if_neg hj]
    simp [ints, cont, hj]
theorem take_snocN (l : List Nat) (k : Nat) (h : k < l.length) : l.take (k + 1) = l.take k ++ [l.getD k 0] := by
  rw [List.take_succ_eq_append_getElem h, List.getD_eq_getElem?_getD, List.getElem?_eq_getElem h, Option.getD_some]
theorem below_lt2 {L : Nat → List Nat} {N : Nat} (hL : Gd L N) {x : Int} {p : Nat} (h : p ∈ belowP L x) : p < N := ((mem_below hL x p).1 h).1.lt hL.bd (st_lt hL)
set_option maxRecDepth 100000 in
set_option maxHeartbeats 4000000 in
theorem doms_c (g : List (List Int)) (vg vo : Value) (w : World) (h : Sd w vg vo g) :
    Calls Try.prog 53 #[.agg #[vg, vo]] w (WaysPost (domsP (adj g) g.length) w) := by
  have HSd := hid h
  have hlen := h.len
  have HL := hid (adj_bd h.ok)
  obtain ⟨B, hg⟩ := h.gr
  obtain ⟨sg, cg, rfl⟩ := hg.slice
  obtain ⟨lo, ho⟩ := h.od
  have HOd := hid ho
  obtain ⟨so, co, rfl⟩ := own_slice ho
  clear h hg ho
  have HB1 := hid ((Below.refl w.heap.size w).alloc (Nat.le_refl _) (.cells #[.slice sg g.length cg, .slice so (natI (orderP (adj g))).length co] 48))
  have HR1 := hid (Row.new w 48 #[.slice sg g.length cg, .slice so (natI (orderP (adj g))).length co])
  obtain ⟨w1, hw1⟩ : ∃ w1, w.alloc (.cells #[.slice sg g.length cg, .slice so (natI (orderP (adj g))).length co] 48) = w1 := ⟨_, rfl⟩
  rw [hw1] at HB1 HR1
  have hz1 : w1.heap.size = w.heap.size + 1 := by rw [← hw1]; simp
  have HW1 := hid hw1
  have HZ1 := hid hz1
  have HNat := hid (rep_cont (adj g) g.length)
  have c0 := HR1.out.cell 0
  have c1 := HR1.out.cell 1
  simp at c0 c1
  clear hw1 hz1
  go_enter Try.func53, Try.ntmps53
  go_wp2_with fail
  rw [HW1.out]
  rw [← HZ1.out]
  refine (repeat_c (-1) g.length w1.heap.size 1 (w1.alloc (.cells #[.int .i64 (-1)] 3)) (by simp [go_sem]) (by simp) hlen.1 hlen.2.1).mono ?_
  rintro e w2 ⟨v2, rfl, hown2, hb2⟩
  have hba := (Below.refl w1.heap.size w1).alloc (Nat.le_refl _) (.cells #[.int .i64 (-1)] 3)
  have hb12 := hba.trans (hb2.mono (by simp))
  rw [HNat.out, cont_len] at hown2
  obtain ⟨bl, cl, rfl, hbl, hat⟩ := IAt.of_own hown2 (by omega)
  have hbl1 : w1.heap.size < bl := by have : (w1.alloc (.cells #[.int .i64 (-1)] 3)).heap.size = w1.heap.size + 1 := by simp
                                      omega
  have HAt := hid hat
  have HB2 := hid hb12
  clear hown2 hb2 hba hb12 hat hbl c0 c1
  have HR2 := hid (HR1.out.on HB2.out)
  have c0 := HR2.out.cell 0
  have c1 := HR2.out.cell 1
  simp at c0 c1
  go_wp2_with fail
  go_loopw [16] (fun y wr => ∃ i : Nat, y = .int .i64 i ∧ i ≤ (natI (orderP (adj g))).length ∧ IAt wr bl cl g.length (fun t => lastI (adj g) ((orderP (adj g)).take i) t) ∧ Below w1.heap.size w1 wr) (fun y _ => (natI (orderP (adj g))).length - (intOf y).toNat)
  case atStart => exact ⟨0, rfl, by omega, by simpa using HAt.out, HB2.out⟩
  case round =>
    obtain ⟨i, rfl, hi, hat, hbel⟩ := hrel
    have HAr := hid hat
    have HBr := hid hbel
    have hblr := hat.lt
    clear hat hbel c0 c1
    by_cases hlt : i < (natI (orderP (adj g))).length
    case neg =>
      obtain rfl : i = (natI (orderP (adj g))).length := by omega
      go_wp2_with fail
      go_ret
      refine ⟨_, rfl, ?_, HB1.out.trans (HBr.out.mono (by have := HZ1.out; omega))⟩
      have h1 := HAr.out.own (base := w.heap.size) (by have := HZ1.out; omega)
      rw [natI_len, List.take_length] at h1
      have h2 : domsP (adj g) g.length = cont g.length (fun t => lastI (adj g) (orderP (adj g)) t) := rfl
      rw [h2, cont_len]
      exact h1
    have hio : i < (orderP (adj g)).length := by rwa [natI_len] at hlt
    have HTk := hid (take_snocN (orderP (adj g)) i hio)
    have hxe : (natI (orderP (adj g))).getD i 0 = ((orderP (adj g)).getD i 0 : Nat) := natI_get _ _ hio
    obtain ⟨x, hx⟩ : ∃ x, (orderP (adj g)).getD i 0 = x := ⟨_, rfl⟩
    rw [hx] at hxe HTk
    have HRr := hid (HR1.out.on HBr.out)
    have HBw := hid (show Below w.heap.size w wr from HB1.out.trans (HBr.out.mono (by have := HZ1.out; omega)))
    have HSr := hid (HSd.out.on HBw.out)
    obtain ⟨a9, c9, e9, h9⟩ := Rd.of_own (own_on HOd.out HBw.out)
    rcases h9 with h9 | ⟨b3, o3, rfl, hb3, hc3⟩
    · rw [h9] at hlt; simp at hlt
    simp only [Value.slice.injEq, true_and, and_true] at e9
    obtain ⟨rfl, rfl⟩ := e9
    have q1 := hc3 i hlt
    rw [hxe] at q1
    have c0 := HRr.out.cell 0
    have c1 := HRr.out.cell 1
    simp at c0 c1
    have hi2 : (i : Int) < (natI (orderP (adj g))).length := by omega
    have hi0 : 0 ≤ (i : Int) := by omega
    clear hc3 hxe hx
    go_wp2_with fail
    refine (below_c g x _ _ wr HSr.out).mono ?_
    rintro e w5 ⟨v5, rfl, hown5, hb5⟩
    obtain ⟨s5, c5, rfl⟩ := own_slice hown5
    have HO5 := hid hown5
    have HA5 := hid (HAr.out.on hb5)
    have HB5 := hid (HBr.out.trans (hb5.mono HBr.out.size))
    have hz5 := hb5.size
    clear hown5 hb5 c0 c1 q1
    have hbl9 : ∀ q ∈ belowP (adj g) (x : Int), q < g.length := fun q hq => below_lt2 HL.out hq
    have HBl := hid hbl9
    have HUp := hid (upd_succ (adj g) ((orderP (adj g)).take i) x)
    have HU0 := hid (upd_zero (adj g) ((orderP (adj g)).take i) x)
    have HUA := hid (upd_all (adj g) ((orderP (adj g)).take i) x)
    have hbl30 : (natI (belowP (adj g) (x : Int))).length ≤ 30 := by
      have h1 : (belowP (adj g) (x : Int)).length ≤ (orderP (adj g)).length := List.length_filter_le _ _
      rw [natI_len]
      omega
    clear hbl9
    go_wp2_with fail
    go_loopw [24] (fun y wq => ∃ j : Nat, y = .int .i64 j ∧ j ≤ (natI (belowP (adj g) (x : Int))).length ∧ IAt wq bl cl g.length (updI (adj g) ((orderP (adj g)).take i) x j) ∧ Only (fun k => k = bl) w5 wq) (fun y _ => (natI (belowP (adj g) (x : Int))).length - (intOf y).toNat)
    case atStart => exact ⟨0, rfl, by omega, HA5.out.congr (fun j _ => (HU0.out j).symm), Only.refl _ _⟩
    case round =>
      obtain ⟨j, rfl, hj, hat, honly⟩ := hrel
      have HAq := hid hat
      have HOq := hid honly
      have hzq := honly.size
      clear hat honly
      by_cases hjt : j < (natI (belowP (adj g) (x : Int))).length
      case neg =>
        obtain rfl : j = (natI (belowP (adj g) (x : Int))).length := by omega
        go_wp2_with fail
        refine ⟨⟨i + 1, by go_num, by omega, ?_, HB5.out.trans (HOq.out.below (B := w1.heap.size) HB5.out.size (fun k hk => by omega))⟩, by simp only [intOf]; omega⟩
        refine HAq.out.congr (fun t _ => ?_)
        rw [HTk.out, natI_len, HUA.out]
      have hjb : j < (belowP (adj g) (x : Int)).length := by rwa [natI_len] at hjt
      have hme : (natI (belowP (adj g) (x : Int))).getD j 0 = ((belowP (adj g) (x : Int)).getD j 0 : Nat) := natI_get _ _ hjb
      have hmm : (belowP (adj g) (x : Int)).getD j 0 ∈ belowP (adj g) (x : Int) := by simp [hjb]
      have hUs := HUp.out j _ (take_snocN (belowP (adj g) (x : Int)) j hjb)
      obtain ⟨m, hm⟩ : ∃ m, (belowP (adj g) (x : Int)).getD j 0 = m := ⟨_, rfl⟩
      rw [hm] at hme hmm hUs
      have HUs := hid hUs
      have hmN := HBl.out m hmm
      have hO6 := own_only HO5.out (fun k hk hkb => by have := (HO5.out.lt k hk).1; omega) HOq.out
      obtain ⟨a8, c8, e8, h8⟩ := Rd.of_own hO6
      rcases h8 with h8 | ⟨b4, o4, rfl, hb4, hc4⟩
      · rw [h8] at hjt; simp at hjt
      simp only [Value.slice.injEq, true_and, and_true] at e8
      obtain ⟨rfl, rfl⟩ := e8
      have q1 := hc4 j hjt
      rw [hme] at q1
      have q2 := HAq.out.cell hmN
      have q3 := HAq.out.free m
      have hj2 : (j : Int) < (natI (belowP (adj g) (x : Int))).length := by omega
      have hj0 : 0 ≤ (j : Int) := by omega
      have hm2 : (m : Int) < g.length := by omega
      have hm0 : 0 ≤ (m : Int) := by omega
      clear hc4 hme hmm hUs hm hO6
      by_cases hmx : m = x
      · subst hmx
        go_wp2_with fail
        refine ⟨⟨j + 1, by go_num, by omega, HAq.out.congr (fun t _ => ?_), HOq.out⟩, by simp only [intOf]; omega⟩
        rw [HUs.out t, if_neg (fun h => h.2 rfl)]
      have hmx2 : ¬ (m : Int) = x := by omega
      go_wp2_with fail
      refine ⟨⟨j + 1, by go_num, by omega, (HAq.out.put (p := m) x).congr (fun t _ => ?_), HOq.out.setCell rfl m _⟩, by simp only [intOf]; omega⟩
      rw [HUs.out t]
      by_cases htm : t = m
      · rw [if_pos htm, if_pos ⟨htm, hmx⟩]
      · rw [if_neg htm, if_neg (fun h => htm h.1)]
set_option maxRecDepth 100000 in
set_option maxHeartbeats 2000000 in
theorem domsOf_c (g : List (List Int)) (v : Value) (B : Nat) (w : World) (h : GAt B w v g) (hs : Sz g) :
    Calls Try.prog 25 #[v] w (WaysPost (domsS g) w) := by
  obtain ⟨sg, cg, rfl⟩ := h.slice
  have HG := hid h
  have HS := hid hs
  obtain ⟨os, hos⟩ : ∃ os, domsS g = os := ⟨_, rfl⟩
  have HOs := hid hos
  rw [hos]
  clear h hs hos
  go_enter Try.func25, Try.ntmps25
  go_wp2_with fail
  refine (searchedOf_c g _ B w HG.out HS.out).mono ?_
  rintro e w1 ⟨hb1, h⟩
  have HB1 := hid hb1
  rcases h with ⟨hok, rfl⟩ | ⟨hok, vo, rfl, hown⟩
  · have HO := hid (show os = [] by rw [← HOs.out, domsS, hok]; rfl)
    clear hok hb1
    go_wp2_with fail
    go_ret
    exact ⟨_, rfl, by rw [HO.out]; exact World.ownsRow_nil _ _ _ _, HB1.out.alloc HB1.out.size _⟩
  · have HO := hid (show domsP (adj g) g.length = os by rw [← HOs.out, domsS, hok]; rfl)
    have HSd := hid (sd_of hok HG.out hb1 hown)
    obtain ⟨so, co, rfl⟩ := own_slice hown
    clear hok hb1 hown
    have HB2 := hid (HB1.out.alloc HB1.out.size (.cells #[.slice sg g.length cg, .slice so (natI (orderP (adj g))).length co] 48))
    have HSd2 := hid (HSd.out.on ((Below.refl w1.heap.size w1).alloc (Nat.le_refl _) (.cells #[.slice sg g.length cg, .slice so (natI (orderP (adj g))).length co] 48)))
    go_wp2_with fail
    refine (doms_c g _ _ _ HSd2.out).mono ?_
    rw [HO.out]
    rintro e w2 ⟨v2, rfl, hown2, hb2⟩
    obtain ⟨s2, c2, rfl⟩ := own_slice hown2
    have HO2 := hid (own_mono hown2 HB2.out.size)
    have HB3 := hid (HB2.out.trans (hb2.mono HB2.out.size))
    clear hown2 hb2
    go_wp2_with fail
    go_ret
    exact ⟨_, rfl, HO2.out, HB3.out⟩
end Go.Proofs.Ytbbhbjdpdhbjlaa.Ge
