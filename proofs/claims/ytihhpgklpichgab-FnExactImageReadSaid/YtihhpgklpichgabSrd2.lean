/- ImageRead of the model. -/
import Derived.Test.YtihhpgklpichgabSrd
import Derived.Test.YtihhpgklpichgabRdr4
import Derived.Test.YtihhpgklpichgabIm10
set_option linter.unusedSimpArgs false
set_option linter.unusedVariables false
namespace Go.Proofs.Ytihhpgklpichgab.Im
open Go.RowKit Pl Ft Mm In C2

theorem readS_byte {l : List Int} (h : l.all isByte = false) : readS l = none := by unfold readS; rw [h]; rfl
theorem readS_fin {l : List Int} (h : l.length < fin l) : readS l = none := by
  unfold readS
  rw [decide_eq_false (by omega : ¬ fin l ≤ l.length)]
  simp
theorem readS_ok {l : List Int} (h : imageOk (imageU l) = false) : readS l = none := by unfold readS; rw [h]; simp
theorem readS_eq {l : List Int} (h1 : l.all isByte = true) (hf : fin l ≤ l.length) (h2 : imageOk (imageU l) = true) : readS l = if eqInts (imgBytes (imageU l)) l = true then some (imageU l) else none := by
  unfold readS
  rw [h1, h2, decide_eq_true hf]
  simp
theorem namesU_succ (l : List Int) (p k : Nat) : namesU l p (k + 1) = namesU l p k ++ [nameU l (namesEnd l p k)] := by
  unfold namesU
  rw [List.range_succ, List.map_append]
  rfl
theorem namesU_len (l : List Int) (p k : Nat) : (namesU l p k).length = k := by simp [namesU]
theorem sm_imageU (l : List Int) (hb : l.all isByte = true) : Sm (imageU l) := by
  have h1 := (num2_toNat l 2 hb).2
  have h2 := (num1_toNat l 7 hb).2
  have h3 := (num1_toNat l 8 hb).2
  have c1 := cut_short l (codeAt l) (codeLen l)
  have c2 := cut_short l (codeAt l + codeLen l) (dataLen l)
  refine ⟨?_, ?_, ?_, ?_⟩
  · show (cut l (codeAt l) (codeLen l)).length ≤ 1048576
    have : codeLen l ≤ 65535 := h1
    omega
  · show (cut l (codeAt l + codeLen l) (dataLen l)).length ≤ 1048576
    have : dataLen l ≤ 255 := h2
    omega
  · show (namesU l 9 (nameCount l)).length ≤ 1048576
    rw [namesU_len]
    have : nameCount l ≤ 255 := h3
    omega
  · intro x hx
    obtain ⟨j, _, rfl⟩ := List.mem_map.1 hx
    have h4 := (num1_toNat l (namesEnd l 9 j) hb).2
    have c3 := cut_short l (namesEnd l 9 j + 1) (nameLen l (namesEnd l 9 j))
    show (((cut l _ _).map byteOf).toArray).size ≤ 1048576
    rw [List.size_toArray, List.length_map]
    omega
/-- The rounds over the names. -/
structure MRel (w : World) (R rb mb : Nat) (v : Value) (l : List Int) (en ro : Int) (cnt : Nat) (b9 : Bool) (vn : Value) (N : List Nm) (k : Nat) (b : Bool) (wr : World) : Prop where
  box : Row wr mb 48 #[.slice none 0 0, .int .i64 en, .int .i64 ro, .slice none 0 0, vn]
  own : wr.ownsRow w.heap.size 98 2 vn N.length (nmCells N)
  len : N.length = k
  val : b = false → N = namesU l 9 k ∧ b9 = false
  rs : SS wr rb v l (namesEnd l 9 k) b
  res : Row wr R 48 iz
  only : Only (· = rb) w wr
  pos : namesEnd l 9 k ≤ codeAt l
  le : k ≤ cnt
theorem SS.len_lt' {w : World} {rb : Nat} {v : Value} {l : List Int} {p : Nat} {b : Bool} (h : SS w rb v l p b) (hb : b = true) : l.length < p := by
  subst hb
  exact h.len_lt
theorem SS.canon {w : World} {rb : Nat} {v : Value} {l : List Int} {p n n' : Nat} {b b' : Bool} (hs : SS w rb v l (p + n) b') (h0 : b = true → l.length < p) (h1 : b = false → n = n') (h2 : b' = false → b = false) (hp : 2 ≤ p) : SS w rb v l (p + n') b' := by
  cases b
  · rw [← h1 rfl]
    exact hs
  · cases b'
    · exact absurd (h2 rfl) (by decide)
    · exact hs.far_on (by have := h0 rfl; omega) (by omega)
theorem codeAt_ge (l : List Int) : 9 ≤ codeAt l := namesEnd_mono' l 9 (Nat.zero_le (nameCount l))
theorem SS.no_own {w : World} {rb : Nat} {v : Value} {l : List Int} {p : Nat} {b : Bool} (h : SS w rb v l p b) {B n size : Nat} {e : TypeId} {v2 : Value} {xs : List Value} (ho : w.ownsRow B e size v2 n xs) (hne : e ≠ 104) : ∀ g, v2.ownBlock = some g → ¬ g = rb := by
  obtain ⟨a, hr, _⟩ := h.ex
  intro g hg hgr
  exact Im.no_own hr ho hne (by rw [hg, hgr])
theorem Only.mix {p q : Nat → Prop} {w0 w w' : World} (h : Only p w0 w) (ho : Only q w w') (hq : ∀ k, q k → p k ∨ w0.heap.size ≤ k) : Only p w0 w' :=
  ⟨ho.os.trans h.os, ho.tape.trans h.tape, ho.output.trans h.output, Nat.le_trans h.size ho.size, fun k hk hn => (ho.block k (Nat.lt_of_lt_of_le hk h.size) (fun hqk => by
    rcases hq k hqk with h1 | h1
    · exact hn h1
    · omega)).trans (h.block k hk hn)⟩
/-- The letters of a name, so far. -/
structure TRel (tb : Nat) (wb : World) (xs : List Int) (j : Nat) (u : Value) (wq : World) : Prop where
  own : wq.ownsRow tb 5 1 u (xs.take j).length (u8s (xs.take j))
  at_ : ∀ g, u.ownBlock = some g → g = tb ∨ wb.heap.size ≤ g
  only : Only (· = tb) wb wq
theorem int_nat {x : Int} {m : Int} (h0 : 0 ≤ x) (h1 : x ≤ m) : ∃ n : Nat, x = n := ⟨x.toNat, by omega⟩
set_option maxRecDepth 100000 in
set_option maxHeartbeats 4000000 in
theorem sImageRead_c (v : Value) (l : List Int) (w : World) (h : Rd w v l) (hl : l.length ≤ 1048576) (hfar : ∀ a n c, v = .slice (some a) n c → a.block < w.heap.size) :
    Calls Try.prog 40 #[v] w (ReadPost (readS l) w) := by
  have HRd := hid h
  have HA0 := hid (show Row _ _ _ iz from Row.new w 48 #[.slice none 0 0, .int .i64 0, .int .i64 0, .slice none 0 0, .slice none 0 0])
  have HB0 := hid ((Below.refl w.heap.size w).alloc (Nat.le_refl _) (.cells #[.slice none 0 0, .int .i64 0, .int .i64 0, .slice none 0 0, .slice none 0 0] 48))
  clear h
  cases hby : l.all isByte
  · have HBy := hid hby
    have HNo := hid (readS_byte hby)
    clear hby
    have y0 := HA0.out.cell 0
    have y1 := HA0.out.cell 1
    have y2 := HA0.out.cell 2
    have y3 := HA0.out.cell 3
    have y4 := HA0.out.cell 4
    simp [iz] at y0 y1 y2 y3 y4
    have hfy := HA0.out.free
    go_enter Try.func40, Try.ntmps40
    go_wp2_with (go_at_call 88; refine (sAreBytes_c l _ _ (HRd.out.on HB0.out) (by omega)).mono ?_; rw [HBy.out]; rintro e w' ⟨rfl, rfl⟩)
    refine bodyPost_ret (v := .tuple #[.agg iz, .bool false]) ?_ rfl ?_
    · exact res_cell_tmp Try.results40 _ _ w.heap.size iz _ rfl HA0.out Try.underlying48 size_img
    · exact readPost_no HNo.out HB0.out
  have HBy := hid hby
  have HFar := hid hfar
  obtain ⟨va, vcap, rfl⟩ := rd_slice HRd.out
  have hal := (HB0.out.alloc HB0.out.size (.cells #[.slice va l.length vcap, .int .i64 2, .bool false] 104))
  have hrow := Row.new (w.alloc (.cells #[.slice none 0 0, .int .i64 0, .int .i64 0, .slice none 0 0, .slice none 0 0] 48)) 104 #[.slice va l.length vcap, .int .i64 2, .bool false]
  rw [World.size_alloc] at hrow
  have HS1 := hid (show SS _ (w.heap.size + 1) (.slice va l.length vcap) l 2 false from ⟨⟨2, hrow, fun _ => rfl, (fun h => by cases h), by omega⟩, HRd.out.on hal, fun a n c h => by have := HFar.out a n c h; omega, hl, by omega, fun _ => .inr rfl⟩)
  have HA1 := hid (HA0.out.alloc (.cells #[.slice va l.length vcap, .int .i64 2, .bool false] 104))
  have HB1 := hid hal
  have hw1 : w.heap.size + 1 < ((w.alloc (.cells #[.slice none 0 0, .int .i64 0, .int .i64 0, .slice none 0 0, .slice none 0 0] 48)).alloc (.cells #[.slice va l.length vcap, .int .i64 2, .bool false] 104)).heap.size := by simp
  clear hby hfar hal hrow
  go_enter Try.func40, Try.ntmps40
  go_wp2_with (go_at_call 88; refine (sAreBytes_c l _ _ (HRd.out.on HB0.out) (by omega)).mono ?_; rw [HBy.out]; rintro e w' ⟨rfl, rfl⟩)
  generalize (w.alloc (.cells #[.slice none 0 0, .int .i64 0, .int .i64 0, .slice none 0 0, .slice none 0 0] 48)).alloc (.cells #[.slice va l.length vcap, .int .i64 2, .bool false] 104) = w1 at HS1 HA1 HB1 hw1 ⊢
  obtain ⟨rb, hrb⟩ : ∃ rb, w.heap.size + 1 = rb := ⟨_, rfl⟩
  rw [hrb] at HS1 hw1 ⊢
  have hne0 : w.heap.size ≠ rb := by omega
  have hrb0 : w.heap.size < rb := by omega
  clear hrb
  refine (word_r rb _ l 2 false _ HS1.out HBy.out).mono ?_
  rintro e w2 ⟨lg, b2, rfl, hlg0, hlg1, hs2, hv2, ho2⟩
  obtain ⟨lgn, rfl⟩ := int_nat hlg0 hlg1
  have HS2 := hid (show SS w2 rb _ l 4 b2 from hs2)
  have HV2 := hid hv2
  have HO2 := hid ho2
  have HA2 := hid (row_only HA1.out hne0 ho2)
  clear hs2 hv2 ho2
  go_wp2_with fail
  refine (word_r rb _ l 4 b2 _ HS2.out HBy.out).mono ?_
  rintro e w3 ⟨en, b3, rfl, hen0, hen1, hs3, hv3, ho3⟩
  have HS3 := hid (show SS w3 rb _ l 6 b3 from hs3)
  have HV3 := hid hv3
  have HO3 := hid (HO2.out.trans ho3)
  have HA3 := hid (row_only HA2.out hne0 ho3)
  clear hs3 hv3 ho3
  go_wp2_with fail
  refine (next_r rb _ l 6 b3 _ HS3.out HBy.out).mono ?_
  rintro e w4 ⟨ro, b4, rfl, hro0, hro1, hs4, hv4, ho4⟩
  have HS4 := hid (show SS w4 rb _ l 7 b4 from hs4)
  have HV4 := hid hv4
  have HO4 := hid (HO3.out.trans ho4)
  have HA4 := hid (row_only HA3.out hne0 ho4)
  clear hs4 hv4 ho4
  go_wp2_with fail
  obtain ⟨mb, hmb⟩ : ∃ mb, w4.heap.size = mb := ⟨_, rfl⟩
  have hal := ((Below.refl w4.heap.size w4).alloc (Nat.le_refl _) (.cells #[.slice none 0 0, .int .i64 en, .int .i64 ro, .slice none 0 0, .slice none 0 0] 48))
  have hz4 := HO4.out.size
  have hm0 : w1.heap.size ≤ mb := by omega
  have hne1 : mb ≠ rb := by omega
  have hbx := Row.new w4 48 #[.slice none 0 0, .int .i64 en, .int .i64 ro, .slice none 0 0, .slice none 0 0]
  rw [hmb] at hbx
  have HX5 := hid hbx
  have HS5 := hid (HS4.out.on hal)
  have HO5 := hid (HO4.out.trans (.of_below hal))
  have HA5 := hid (HA4.out.on hal)
  rw [hmb]
  clear hal hbx
  generalize w4.alloc (.cells #[.slice none 0 0, .int .i64 en, .int .i64 ro, .slice none 0 0, .slice none 0 0] 48) = w5 at HX5 HS5 HO5 HA5 ⊢
  clear hmb hz4
  refine (next_r rb _ l 7 b4 _ HS5.out HBy.out).mono ?_
  rintro e w6 ⟨da, b6, rfl, hda0, hda1, hs6, hv6, ho6⟩
  obtain ⟨dan, rfl⟩ := int_nat hda0 hda1
  have HS6 := hid (show SS w6 rb _ l 8 b6 from hs6)
  have HV6 := hid hv6
  have HO6 := hid (HO5.out.trans ho6)
  have HA6 := hid (row_only HA5.out hne0 ho6)
  have HX6 := hid (row_only HX5.out hne1 ho6)
  clear hs6 hv6 ho6
  go_wp2_with fail
  refine (next_r rb _ l 8 b6 _ HS6.out HBy.out).mono ?_
  rintro e w7 ⟨cn, b7, rfl, hcn0, hcn1, hs7, hv7, ho7⟩
  obtain ⟨cnt, rfl⟩ := int_nat hcn0 hcn1
  have HS7 := hid (show SS w7 rb _ l 9 b7 from hs7)
  have HO7 := hid (HO6.out.trans ho7)
  have HA7 := hid (row_only HA6.out hne0 ho7)
  have HX7 := hid (row_only HX6.out hne1 ho7)
  have HVals := hid (show b7 = false → lgn = codeLen l ∧ en = numAt l 4 2 ∧ ro = numAt l 6 1 ∧ dan = dataLen l ∧ cnt = nameCount l from fun h => by
    obtain ⟨e7, g7⟩ := hv7 h
    obtain ⟨e6, g6⟩ := HV6.out g7
    obtain ⟨e4, g4⟩ := HV4.out g6
    obtain ⟨e3, g3⟩ := HV3.out g4
    obtain ⟨e2, g2⟩ := HV2.out g3
    refine ⟨?_, e3, e4, ?_, ?_⟩
    · unfold codeLen; rw [← e2]; omega
    · unfold dataLen; rw [← e6]; omega
    · unfold nameCount; rw [← e7]; omega)
  clear hs7 hv7 ho7
  go_wp2_with fail
  have HM0 := hid (show MRel w1 w.heap.size rb mb (.slice va l.length vcap) l en ro cnt b7 (.slice none 0 0) [] 0 b7 w7 from
    ⟨HX7.out, World.ownsRow_nil _ _ _ _, rfl, fun h => ⟨rfl, h⟩, HS7.out, HA7.out, HO7.out, namesEnd_mono' l 9 (Nat.zero_le _), by omega⟩)
  clear HX7 HA7 HO7 HS7 HX6 HA6 HO6 HX5 HA5 HO5 HV6 HV4 HV3 HV2
  go_loopw [9] (fun c wr => ∃ (k : Nat) (b : Bool) (vn : Value) (N : List Nm), c = .int .i64 k ∧ MRel w1 w.heap.size rb mb (.slice va l.length vcap) l en ro cnt b7 vn N k b wr) (fun c _ => cnt - (intOf c).toNat)
  case atStart => exact ⟨0, b7, _, [], rfl, HM0.out⟩
  case round =>
    obtain ⟨k, b, vn, N, rfl, hrel⟩ := hrel
    have HR := hid hrel
    have hk := hrel.le
    obtain ⟨a, hrow, _⟩ := hrel.rs.ex
    have x2 := hrow.cell 2
    simp at x2
    have hzr := hrel.only.size
    clear hrel hrow HM0
    by_cases hc : k < cnt ∧ b = false
    · obtain ⟨hlt, rfl⟩ := hc
      have hal := (Below.refl wr.heap.size wr).alloc (Nat.le_refl _) (.cells #[] 5)
      have HSr := hid (HR.out.rs.on hal)
      have HTx := hid (show (wr.alloc (.cells #[] 5)).ownsRow wr.heap.size 5 1 (.slice (some ⟨wr.heap.size, 0, none⟩) 0 0) ([] : List Int).length (u8s []) from World.ownsRow_lit (base := wr.heap.size) (e := 5) (size := 1) wr #[] 0 (Nat.le_refl _) (by decide) rfl)
      have HOr := hid (HR.out.only.trans (.of_below hal))
      have HAr := hid (HR.out.res.on hal)
      have HXr := hid (HR.out.box.on hal)
      have HNr := hid (own_on HR.out.own hal)
      obtain ⟨p, hp⟩ : ∃ p, namesEnd l 9 k = p := ⟨_, rfl⟩
      have HP := hid hp
      rw [hp] at HSr
      obtain ⟨tb, htb⟩ : ∃ tb, wr.heap.size = tb := ⟨_, rfl⟩
      have htb1 : w1.heap.size ≤ tb := by omega
      have hmt : mb < tb := by have := HR.out.box.lt; omega
      have hNlt : ∀ g, vn.ownBlock = some g → w1.heap.size ≤ g ∧ g < tb := fun g hg => by have := HR.out.own.lt g hg; omega
      have HNlt := hid hNlt
      have htr : tb < (wr.alloc (.cells #[] 5)).heap.size := by simp; omega
      clear hal hp hNlt
      go_wp2_with fail
      rw [htb] at HTx
      clear htb
      generalize wr.alloc (.cells #[] 5) = wt at HSr HTx HOr HAr HXr HNr htr ⊢
      refine (next_r rb _ l p false _ HSr.out HBy.out).mono ?_
      rintro e wa ⟨x, ba, rfl, hx0, hx1, hsa, hva, hoa⟩
      obtain ⟨n, rfl⟩ := int_nat hx0 hx1
      have HSa := hid hsa
      have HVa := hid hva
      have HTa := hid (own_only HTx.out (HSr.out.no_own HTx.out (by decide)) hoa)
      have HNa := hid (own_only HNr.out (HSr.out.no_own HNr.out (by decide)) hoa)
      have HXa := hid (row_only HXr.out hne1 hoa)
      have HAa := hid (row_only HAr.out hne0 hoa)
      have HOa := hid (HOr.out.trans hoa)
      have hza := hoa.size
      clear hsa hva hoa
      go_wp2_with fail
      refine (some_r rb _ l (p + 1) n ba _ HSa.out HBy.out (by omega)).mono ?_
      rintro e wb ⟨vl, xs, bb, rfl, hownl, hxl, hxb, hsb, hvb, hob⟩
      obtain ⟨sl, cl, rfl⟩ := own_slice hownl
      have HLb := hid hownl
      have HLlt := hid (fun g hg => (hownl.lt g hg).1)
      have HXb' := hid hxb
      have HSb := hid hsb
      have HVb := hid hvb
      have HTb := hid (own_only HTa.out (HSa.out.no_own HTa.out (by decide)) hob)
      have HNb := hid (own_only HNa.out (HSa.out.no_own HNa.out (by decide)) hob)
      have HXb := hid (row_only HXa.out hne1 hob)
      have HAb := hid (row_only HAa.out hne0 hob)
      have HOb := hid (HOa.out.trans hob)
      have hzb := hob.size
      clear hownl hxb hsb hvb hob
      go_wp2_with fail
      go_loopw [10, 12] (fun u c wq => ∃ j : Nat, c = .int .i64 j ∧ j ≤ xs.length ∧ TRel tb wb xs j u wq) (fun _ c _ => xs.length - (intOf c).toNat)
      case atStart => exact ⟨0, rfl, by omega, HTb.out, fun g hg => .inl (by simp [Value.ownBlock] at hg; exact hg.symm), Only.refl _ _⟩
      case round =>
        obtain ⟨j, rfl, hj, hrel⟩ := hrel
        have HT := hid hrel
        have hzq := hrel.only.size
        have HLq := hid (own_only HLb.out (fun g hg h => by have := HLlt.out g hg; omega) hrel.only)
        clear hrel
        by_cases hjt : j < xs.length
        · rcases (Rd.of_own HLq.out) with ⟨a', c', e', hh⟩
          simp only [Value.slice.injEq] at e'
          obtain ⟨rfl, _, rfl⟩ := e'
          rcases hh with hh | ⟨g, o, rfl, hg, hcl⟩
          · rw [hh] at hjt; simp at hjt
          have q0 := hcl j hjt
          have hx := isByte_iff.1 (List.all_eq_true.1 HXb'.out (xs.getD j 0) (by simp [hjt]))
          have HSn := hid (take_snoc xs j hjt)
          have htl : (xs.take j).length = j := by rw [List.length_take]; omega
          have HTl := hid htl
          obtain ⟨y, hye⟩ : ∃ y, xs.getD j 0 = y := ⟨_, rfl⟩
          rw [hye] at q0 hx HSn
          obtain ⟨hy0, hy1⟩ := hx
          clear hcl hye htl
          go_wp2_with (at_builtin; refine app_u8 _ rfl _ _ rfl tb (xs.take j) [y] _ rfl (HT.out.own.alloc _) _ _ _ rfl rfl (SrcAt.u8 _ y _ (by simp)) (by have := HTl.out; simp only [List.length_cons, List.length_nil]; omega) (by simp; omega) ?_)
          intro v2 w2' hown2 hb2 ho2 hat2
          rw [← HSn.out] at hown2
          have HT2 := hid (show TRel tb wb xs (j + 1) v2 w2' from ⟨by rw [List.length_take, Nat.min_eq_left hjt]; exact hown2, fun g hg => by
              rcases hat2 with e2 | e2
              · rw [e2] at hg; exact HT.out.at_ g hg
              · rw [e2] at hg
                simp only [Option.some.injEq, World.size_alloc] at hg
                right; omega, (HT.out.only.trans (.of_below ((Below.refl _ _).alloc (Nat.le_refl _) (.cells #[.int .u8 y] 5)))).mix ho2 (fun g hg => HT.out.at_ g hg)⟩)
          clear hown2 hb2 ho2 hat2 q0
          go_wp2_with fail
          go_roundw
          case rel => exact ⟨j + 1, by go_num, by omega, HT2.out⟩
          case measure => simp [intOf]; omega
        · obtain rfl : j = xs.length := by omega
          have htown := HT.out.own
          rw [List.take_length] at htown
          have HTq := hid htown
          have HOq := hid HT.out.only
          clear htown HT
          have hnt : ∀ k, k = tb → w1.heap.size ≤ k := fun k hk => by omega
          have HSq := hid ((HS1.out.new HSb.out HOq.out hnt).on (Below.refl _ _).drew)
          have HNq := hid (show wr.drew.ownsRow w1.heap.size 98 2 vn N.length (nmCells N) from own_on (own_only (p := (· = tb)) HNb.out (fun g hg (h : g = tb) => by have := (HNlt.out g hg).2; omega) HOq.out) (Below.refl _ _).drew)
          have HXq := hid (row_only (p := (· = tb)) HXb.out (show ¬ mb = tb by omega) HOq.out).drew
          have HAq := hid (row_only (p := (· = tb)) HAb.out (show ¬ w.heap.size = tb by omega) HOq.out).drew
          have HOqd := hid ((HOb.out.new HOq.out hnt).trans (.of_below (Below.refl _ _).drew))
          have HTqd := hid (show wr.drew.ownsRow tb 5 1 u10 xs.length (u8s xs) from HTq.out)
          have hcv1 := conv_own HTqd.out HXb'.out
          obtain ⟨t, ht⟩ : ∃ t, textOf xs = t := ⟨_, rfl⟩
          rw [ht] at hcv1
          have HTt := hid ht
          have x4 := HXq.out.cell 4
          simp at x4
          have hfx := HXq.out.free
          have hzq := HOqd.out.size
          have HWord := hid (fun (w' : World) (hs : SS w' rb (.slice va l.length vcap) l (p + 1 + n) bb) => word_r rb _ l (p + 1 + n) bb w' hs HBy.out)
          have hNl := HR.out.len
          clear ht
          go_upto_region 17 with fail
          go_region_law (first
            | (refine stp_names _ rfl _ _ rfl w1.heap.size N ⟨t, y⟩ vn (by rfl) (HNc.out.alloc _) _ _ _ rfl rfl (SrcAt.nm _ t y _ (by simp)) (by omega) (by simp; omega) ?_; intro v2 w2' hown2 ho2; obtain ⟨s2, c2, rfl⟩ := own_slice hown2; have HW2 := hid hown2; have HO2' := hid ho2; have HX2 := hid (row_only (HXc.out.alloc (.cells #[.string t, .int .i64 y] 98)) (no_own (HXc.out.alloc (.cells #[.string t, .int .i64 y] 98)) (HNc.out.alloc _) name_ne_img) ho2); have y4 := HX2.out.cell 4; simp at y4; have hfy := HX2.out.free; clear hown2 ho2)
            | (go_simp; go_at_call 89; refine (HWord.out _ HSq.out).mono ?_; rintro e wc ⟨y, bc, rfl, hy0, hy1, hsc, hvc, hoc⟩; have HSc := hid hsc; have HVc := hid hvc; have HOc := hid hoc; have HXc := hid (row_only HXq.out hne1 hoc); have HNc := hid (own_only HNq.out (HSq.out.no_own HNq.out (by decide)) hoc); have hcv2 := conv_own (own_only HTqd.out (HSq.out.no_own HTqd.out (by decide)) hoc) HXb'.out; rw [HTt.out] at hcv2; have z4 := HXc.out.cell 4; simp at z4; have hfz := HXc.out.free; have hmz := HXc.out.lt; have hza := hoc.size; simp only [World.drew] at hza; clear hsc hvc hoc))
          all_goals
            go_wp2_with fail
            go_roundw
            case rel =>
              have e : (N ++ [(⟨t, y⟩ : Nm)]).length = k + 1 := by rw [List.length_append, hNl]; rfl
              have hw2 := HW2.out
              rw [e] at hw2
              have hge : ∀ g, vn.ownBlock = some g → w1.heap.size ≤ g := fun g hg => (HNlt.out g hg).1
              have hal := (Below.refl wc.heap.size wc).alloc (Nat.le_refl _) (.cells #[.string t, .int .i64 y] 98)
              have hra := HS1.out.new (HSc.out.on hal) HO2'.out hge
              have haa := (row_only HAq.out hne0 HOc.out).on hal
              have ha2 := row_only haa (no_own haa (HNc.out.alloc _) name_ne_img) HO2'.out
              have hpe : namesEnd l 9 (k + 1) = p + 1 + nameLen l p + 2 := by show nameEnd l (namesEnd l 9 k) = _; rw [HP.out]; rfl
              have hv0 := HR.out.val rfl
              have hnn : ba = false → n = nameLen l p := fun h => by have := (HVa.out h).1; unfold nameLen; omega
              have hpos : namesEnd l 9 (k + 1) ≤ codeAt l := by
                have := (HVals.out hv0.2).2.2.2.2
                exact namesEnd_mono' l 9 (by omega)
              have hss : SS w2' rb (.slice va l.length vcap) l (namesEnd l 9 (k + 1)) bc := by
                rw [hpe]
                cases bc
                · have hb := (HVc.out rfl).2
                  have ha := (HVb.out hb).2
                  rw [← hnn ha]
                  exact hra
                · refine hra.far_on ?_ (by omega)
                  cases ba
                  · rw [← hnn rfl]
                    exact HSc.out.len_lt
                  · have := HSa.out.len_lt
                    omega
              have hval : bc = false → N ++ [(⟨t, y⟩ : Nm)] = namesU l 9 (k + 1) ∧ b7 = false := fun h => by
                obtain ⟨ey, hb⟩ := HVc.out h
                obtain ⟨ex, ha⟩ := HVb.out hb
                refine ⟨?_, hv0.2⟩
                rw [namesU_succ, HP.out, hv0.1, ← HTt.out, ex, ey, hnn ha]
                rfl
              refine ⟨k + 1, bc, .slice s2 (k + 1) c2, N ++ [⟨t, y⟩], by go_num, ⟨?_, ?_, e, hval, HS1.out.fresh hss (g := mb) (by omega) 4 _, ha2.far (p := ⟨mb, 4, none⟩) (by simp; omega) _, (((HOqd.out.trans HOc.out).trans (.of_below hal)).new HO2'.out hge).fresh (g := mb) (by omega) 4 _, hpos, by omega⟩⟩
              · exact HX2.out.set 4 _
              · rw [e]
                exact own_far hw2 (p := ⟨mb, 4, none⟩) (fun g hg h => no_own HX2.out hw2 name_ne_img (by rw [hg, h])) _
            case measure => simp [intOf]; omega
    · have HSx := hid (show SS wr rb (.slice va l.length vcap) l (codeAt l) b from by
        cases b
        · have h1 := HR.out.val rfl
          have h2 := (HVals.out h1.2).2.2.2.2
          have h3 : k = nameCount l := by
            by_cases hlt : k < cnt
            · exact absurd ⟨hlt, rfl⟩ hc
            · omega
          have h4 := HR.out.rs
          rw [h3] at h4
          exact h4
        · have := HR.out.rs.len_lt
          have h5 := HR.out.pos
          have h6 := fin_ge l
          have h7 := namesEnd_mono' l 9 (Nat.zero_le (nameCount l))
          have h8 : namesEnd l 9 0 = 9 := rfl
          exact HR.out.rs.far_on (by omega) (by unfold codeAt; omega))
      have HNv := hid (show b = false → N = namesU l 9 (nameCount l) ∧ b7 = false from fun h => by
        have h1 := HR.out.val h
        have h2 := (HVals.out h1.2).2.2.2.2
        have h3 : k = nameCount l := by
          by_cases hlt : k < cnt
          · exact absurd ⟨hlt, h⟩ hc
          · omega
        rw [← h3]
        exact h1)
      obtain ⟨sn, cn', rfl⟩ := own_slice HR.out.own
      have HNr := hid HR.out.own
      have HXr := hid HR.out.box
      have HAr := hid HR.out.res
      have HOr := hid HR.out.only
      have hmr := HR.out.box.lt
      have hcb : ¬ k < cnt ∨ (k < cnt ∧ b = true) := by
        by_cases hlt : k < cnt
        · right
          cases b
          · exact absurd ⟨hlt, rfl⟩ hc
          · exact ⟨hlt, rfl⟩
        · exact .inl hlt
      clear hc
      rcases hcb with hlt | ⟨hlt, rfl⟩
      all_goals
        go_wp2_with fail
        refine (some_r rb _ l (codeAt l) lgn _ _ HSx.out HBy.out (by omega)).mono ?_
        rintro e wa ⟨vc, C, bC, rfl, hownc, hcl, hcb, hsc, hvc, hoc⟩
        obtain ⟨sc, cc, rfl⟩ := own_slice hownc
        have HCb := hid (fun g hg => hownc.lt g hg)
        have HVc := hid hvc
        have HCa := hid hownc
        have HXa := hid (row_only HXr.out hne1 hoc)
        have HNa := hid (own_only HNr.out (HSx.out.no_own HNr.out (by decide)) hoc)
        have HAa := hid (row_only HAr.out hne0 hoc)
        have HOa := hid (HOr.out.trans hoc)
        have hza := hoc.size
        have HSa := hid (hsc.canon (n' := codeLen l) (HSx.out.len_lt') (fun h => (HVals.out (HNv.out h).2).1) (fun h => (hvc h).2) (by have := codeAt_ge l; omega))
        clear hownc hsc hvc hoc
        have x0 := HXa.out.cell 0
        simp at x0
        have hfx := HXa.out.free
        go_wp2_with fail
        have HXb := hid (show Row _ mb 48 #[.slice sc C.length cc, .int .i64 en, .int .i64 ro, .slice none 0 0, .slice sn N.length cn'] from HXa.out.set 0 (.slice sc C.length cc))
        have HNb := hid (own_far HNa.out (p := ⟨mb, 0, none⟩) (fun g hg h => no_own HXa.out HNa.out name_ne_img (by rw [hg, h])) (.slice sc C.length cc))
        have HCc := hid (own_far HCa.out (p := ⟨mb, 0, none⟩) (fun g hg h => by have := (HCb.out g hg).1; simp at h; omega) (.slice sc C.length cc))
        have HAb := hid (HAa.out.far (p := ⟨mb, 0, none⟩) (by simp; omega) (.slice sc C.length cc))
        have HSb := hid (HS1.out.fresh HSa.out (g := mb) (by omega) 0 (.slice sc C.length cc))
        have HOb := hid (HOa.out.fresh (g := mb) (by omega) 0 (.slice sc C.length cc))
        have hzb : (wa.setCell ⟨mb, 0, none⟩ (.slice sc C.length cc)).heap.size = wa.heap.size := by simp
        generalize wa.setCell ⟨mb, 0, none⟩ (.slice sc C.length cc) = wb at HXb HNb HCc HAb HSb HOb hzb ⊢
        clear x0 hfx
        refine (some_r rb _ l _ dan _ _ HSb.out HBy.out (by omega)).mono ?_
        rintro e wd ⟨vd, D, bD, rfl, hownd, hdl, hdb, hsd, hvd, hod⟩
        obtain ⟨sd, cd, rfl⟩ := own_slice hownd
        have HDb := hid (fun g hg => hownd.lt g hg)
        have HVd := hid hvd
        have HXd := hid (row_only HXb.out hne1 hod)
        have HNd := hid (own_only HNb.out (HSb.out.no_own HNb.out (by decide)) hod)
        have HCd := hid (own_only HCc.out (HSb.out.no_own HCc.out (by decide)) hod)
        have HAd := hid (row_only HAb.out hne0 hod)
        have HOd := hid (HOb.out.trans hod)
        have HDd := hid hownd
        have HSd := hid (show SS wd rb _ l (fin l) bD from hsd.canon (n' := dataLen l) (HSb.out.len_lt') (fun h => (HVals.out (HNv.out (HVc.out h).2).2).2.2.2.1) (fun h => (hvd h).2) (by have := codeAt_ge l; omega))
        have hzd := hod.size
        clear hownd hdb hsd hvd hod
        have x3 := HXd.out.cell 3
        simp at x3
        have hfx := HXd.out.free
        go_upto_region 20 with fail
        have HXe := hid (show Row _ mb 48 #[.slice sc C.length cc, .int .i64 en, .int .i64 ro, .slice sd D.length cd, .slice sn N.length cn'] from HXd.out.set 3 (.slice sd D.length cd))
        have HNe := hid (own_far HNd.out (p := ⟨mb, 3, none⟩) (fun g hg h => no_own HXd.out HNd.out name_ne_img (by rw [hg, h])) (.slice sd D.length cd))
        have HCe := hid (own_far HCd.out (p := ⟨mb, 3, none⟩) (fun g hg h => no_own HXd.out HCd.out (by decide) (by rw [hg, h])) (.slice sd D.length cd))
        have HDe := hid (own_far HDd.out (p := ⟨mb, 3, none⟩) (fun g hg h => no_own HXd.out HDd.out (by decide) (by rw [hg, h])) (.slice sd D.length cd))
        have HAe := hid (HAd.out.far (p := ⟨mb, 3, none⟩) (by simp; omega) (.slice sd D.length cd))
        have HSe := hid (HS1.out.fresh HSd.out (g := mb) (by omega) 3 (.slice sd D.length cd))
        have HOe := hid (HOd.out.fresh (g := mb) (by omega) 3 (.slice sd D.length cd))
        generalize wd.setCell ⟨mb, 3, none⟩ (.slice sd D.length cd) = we at HXe HNe HCe HAe HDe HSe HOe ⊢
        clear x3 hfx
        obtain ⟨ae, hrowe, _⟩ := HSe.out.ex
        have z2 := hrowe.cell 2
        simp at z2
        clear hrowe
        have HBe := hid (HB1.out.trans (HOe.out.below HB1.out.size (fun k hk => by omega)))
        have hze := HOe.out.size
        cases bD
        case true =>
          have HNo := hid (readS_fin HSe.out.len_lt)
          have y0 := HAe.out.cell 0
          have y1 := HAe.out.cell 1
          have y2 := HAe.out.cell 2
          have y3 := HAe.out.cell 3
          have y4 := HAe.out.cell 4
          simp [iz] at y0 y1 y2 y3 y4
          have hfy := HAe.out.free
          go_wp2_with fail
          refine bodyPost_ret (v := .tuple #[.agg iz, .bool false]) ?_ rfl ?_
          · exact res_cell_tmp Try.results40 _ _ w.heap.size iz _ rfl (five_z HAe.out (.slice none 0 0) (.int .i64 0) (.int .i64 0) (.slice none 0 0) (.slice none 0 0)) Try.underlying48 size_img
          · exact readPost_no HNo.out (five_bel HBe.out (Nat.le_refl _) (.slice none 0 0) (.int .i64 0) (.int .i64 0) (.slice none 0 0) (.slice none 0 0))
        case false =>
          have hvd := HVd.out rfl
          have hvc := HVc.out hvd.2
          have hvn := HNv.out hvc.2
          have hvv := HVals.out hvn.2
          have hM : imageU l = ⟨C, en, ro, D, N⟩ := by
            unfold imageU
            rw [← hvv.1, ← hvv.2.1, ← hvv.2.2.1, ← hvv.2.2.2.1, ← hvn.1, ← hvc.1]
            have h2 := hvd.1
            rw [hvv.1]
            rw [← h2]
          have hfin : fin l ≤ l.length := by
            rcases HSe.out.ok rfl with h | h
            · exact h
            · have := fin_ge l; omega
          have hsm := sm_imageU l HBy.out
          rw [hM] at hsm
          have HSm := hid hsm
          have HNo1 := hid (fun h => readS_ok (l := l) (by rw [hM]; exact h))
          have HEq1 := hid (fun h => readS_eq (l := l) HBy.out hfin (by rw [hM]; exact h))
          rw [hM] at HEq1
          have HIe := hid (show IOwn we w.heap.size (.slice sc C.length cc) (.slice sd D.length cd) (.slice sn N.length cn') ⟨C, en, ro, D, N⟩ from
            ⟨own_mono HCe.out (by omega), own_mono HDe.out (by omega), own_mono HNe.out (by omega), fun g h1 h2 => by have := (HCb.out g h1).2; have := (HDb.out g h2).1; omega⟩)
          have HRe := hid HSe.out.rd
          clear hvd hvc hvn hvv hM hfin hsm
          have x0 := HXe.out.cell 0
          have x1 := HXe.out.cell 1
          have x2 := HXe.out.cell 2
          have x3 := HXe.out.cell 3
          have x4 := HXe.out.cell 4
          simp at x0 x1 x2 x3 x4
          go_wp2_with fail
          refine (validImage_c ⟨C, en, ro, D, N⟩ _ _ _ _ HIe.out.cells HSm.out).mono ?_
          rintro e wf ⟨rfl, hbf⟩
          have HXf := hid (HXe.out.on hbf)
          have HIf := hid (HIe.out.on hbf)
          have HAf := hid (HAe.out.on hbf)
          have HBf := hid (HBe.out.trans (hbf.mono HBe.out.size))
          have HRf := hid (HRe.out.on hbf)
          clear hbf x0 x1 x2 x3 x4 z2
          cases hok : imageOk ⟨C, en, ro, D, N⟩
          · have HNo := hid (HNo1.out hok)
            clear hok
            have y0 := HAf.out.cell 0
            have y1 := HAf.out.cell 1
            have y2 := HAf.out.cell 2
            have y3 := HAf.out.cell 3
            have y4 := HAf.out.cell 4
            simp [iz] at y0 y1 y2 y3 y4
            have hfy := HAf.out.free
            go_wp2_with fail
            refine bodyPost_ret (v := .tuple #[.agg iz, .bool false]) ?_ rfl ?_
            · exact res_cell_tmp Try.results40 _ _ w.heap.size iz _ rfl (five_z HAf.out (.slice none 0 0) (.int .i64 0) (.int .i64 0) (.slice none 0 0) (.slice none 0 0)) Try.underlying48 size_img
            · exact readPost_no HNo.out (five_bel HBf.out (Nat.le_refl _) (.slice none 0 0) (.int .i64 0) (.int .i64 0) (.slice none 0 0) (.slice none 0 0))
          have HEq := hid (HEq1.out hok)
          have HBd := hid (imageOk_bd hok)
          clear hok
          have x0 := HXf.out.cell 0
          have x1 := HXf.out.cell 1
          have x2 := HXf.out.cell 2
          have x3 := HXf.out.cell 3
          have x4 := HXf.out.cell 4
          simp at x0 x1 x2 x3 x4
          go_wp2_with fail
          refine (simageBytes_c ⟨C, en, ro, D, N⟩ _ _ _ _ HIf.out.cells HBd.out).mono ?_
          rintro e wg ⟨v5, rfl, hown5, hb5⟩
          have HV5 := hid hown5
          have HXg := hid (HXf.out.on hb5)
          have HIg := hid (HIf.out.on hb5)
          have HAg := hid (HAf.out.on hb5)
          have HBg := hid (HBf.out.trans (hb5.mono HBf.out.size))
          have HRg := hid (HRf.out.on hb5)
          have hbl := imgBytes_len HBd.out
          clear hown5 hb5 x0 x1 x2 x3 x4
          go_wp2_with fail
          refine (sameInts_q (imgBytes ⟨C, en, ro, D, N⟩) l _ _ _ (.of_own HV5.out) HRg.out (by omega) (by omega)).mono ?_
          rintro e wh ⟨rfl, nd, rfl⟩
          have HXh := hid (HXg.out.drewN nd)
          have HIh := hid (HIg.out.on (below_drewN wg nd))
          have HAh := hid (HAg.out.drewN nd)
          have HBh := hid (HBg.out.trans ((below_drewN wg nd).mono HBg.out.size))
          generalize wg.drewN nd = wh at HXh HIh HAh HBh ⊢
          have y0 := HAh.out.cell 0
          have y1 := HAh.out.cell 1
          have y2 := HAh.out.cell 2
          have y3 := HAh.out.cell 3
          have y4 := HAh.out.cell 4
          simp [iz] at y0 y1 y2 y3 y4
          have hfy := HAh.out.free
          cases heq : eqInts (imgBytes ⟨C, en, ro, D, N⟩) l
          · have HNo := hid (show readS l = none by rw [HEq.out, heq]; rfl)
            clear heq
            go_wp2_with fail
            refine bodyPost_ret (v := .tuple #[.agg iz, .bool false]) ?_ rfl ?_
            · exact res_cell_tmp Try.results40 _ _ w.heap.size iz _ rfl (five_z HAh.out (.slice none 0 0) (.int .i64 0) (.int .i64 0) (.slice none 0 0) (.slice none 0 0)) Try.underlying48 size_img
            · exact readPost_no HNo.out (five_bel HBh.out (Nat.le_refl _) (.slice none 0 0) (.int .i64 0) (.int .i64 0) (.slice none 0 0) (.slice none 0 0))
          · have HYes := hid (show readS l = some ⟨C, en, ro, D, N⟩ by rw [HEq.out, heq]; rfl)
            clear heq
            have x0 := HXh.out.cell 0
            have x1 := HXh.out.cell 1
            have x2 := HXh.out.cell 2
            have x3 := HXh.out.cell 3
            have x4 := HXh.out.cell 4
            simp at x0 x1 x2 x3 x4
            go_wp2_with fail
            refine bodyPost_ret (v := .tuple #[imgVal (.slice sc C.length cc) (.slice sd D.length cd) (.slice sn N.length cn') ⟨C, en, ro, D, N⟩, .bool true]) ?_ rfl ?_
            · exact res_cell_tmp Try.results40 _ _ w.heap.size #[.slice sc C.length cc, .int .i64 en, .int .i64 ro, .slice sd D.length cd, .slice sn N.length cn'] _ rfl (five_z HAh.out (.slice sc C.length cc) (.int .i64 en) (.int .i64 ro) (.slice sd D.length cd) (.slice sn N.length cn')) Try.underlying48 size_img
            · refine readPost_yes HYes.out ⟨?_, ?_, ?_, HIh.out.ne⟩ (five_bel HBh.out (Nat.le_refl _) (.slice sc C.length cc) (.int .i64 en) (.int .i64 ro) (.slice sd D.length cd) (.slice sn N.length cn'))
              · exact own_far5 HIh.out.c (fun g hg h => no_own HAh.out HIh.out.c (by decide) (by rw [hg, h])) _ _ _ _ _
              · exact own_far5 HIh.out.d (fun g hg h => no_own HAh.out HIh.out.d (by decide) (by rw [hg, h])) _ _ _ _ _
              · exact own_far5 HIh.out.n (fun g hg h => no_own HAh.out HIh.out.n (by decide) (by rw [hg, h])) _ _ _ _ _
end Go.Proofs.Ytihhpgklpichgab.Im
