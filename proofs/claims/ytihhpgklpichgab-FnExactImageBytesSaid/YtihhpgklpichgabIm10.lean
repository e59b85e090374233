/- imageBytes and ImageBytes of the model. -/
import Derived.Test.YtihhpgklpichgabIm9
import Derived.RegionTactic
import Derived.BigRegion
import Derived.BigQuiet
import Derived.StillTailTactics
set_option linter.unusedSimpArgs false
set_option linter.unusedVariables false
namespace Go.Proofs.Ytihhpgklpichgab.Im
open Go.RowKit Pl Ft Mm In C2

theorem front_nine (m : Img) (h : ImgBd m) : [108, 99, (m.code.length : Int) % 256, (m.code.length : Int) / 256, m.entry % 256, m.entry / 256, m.room, (m.data.length : Int), (m.names.length : Int)] = imgFront m := by
  have h1 := h.c1
  have h2 := h.e0
  have h3 := h.e1
  have e : ∀ x : Int, 0 ≤ x → x ≤ 2000 → bytesOf x 2 = [x % 256, x / 256] := by
    intro x h0 h1
    show [x % 256, x / 256 % 256] = _
    rw [show x / 256 % 256 = x / 256 by omega]
  unfold imgFront
  rw [e _ (by omega) (by omega), e _ h2 (by omega)]
  rfl
/-- What the rounds of the model keep: the list, the image's own block, what there was. -/
structure BRel (w : World) (m : Img) (box : Array Value) (xs : List Int) (v : Value) (wr : World) : Prop where
  own : wr.ownsRow (w.heap.size + 1) 3 1 v xs.length (ints xs)
  box : Row wr w.heap.size 48 box
  bel : Below w.heap.size w wr
theorem BRel.size {w : World} {m : Img} {box : Array Value} {xs : List Int} {v : Value} {wr : World} (h : BRel w m box xs v wr) : w.heap.size + 1 ≤ wr.heap.size := h.box.lt
theorem BRel.grow {w : World} {m : Img} {box : Array Value} {xs ys : List Int} {v v' v0 : Value} {wr w' : World} (h : BRel w m box xs v wr) (hg : Grows (w.heap.size + 1) ys v0 v' wr w') : BRel w m box ys v' w' :=
  ⟨hg.own, h.box.below hg.bel (Nat.lt_succ_self _), h.bel.trans (hg.bel.mono (Nat.le_succ _))⟩
theorem BRel.on {w : World} {m : Img} {box : Array Value} {xs : List Int} {v : Value} {wr w' : World} (h : BRel w m box xs v wr) (hb : Below wr.heap.size wr w') : BRel w m box xs v w' :=
  ⟨own_on h.own hb, h.box.on hb, h.bel.trans (hb.mono (by have := h.size; omega))⟩
theorem BRel.alloc {w : World} {m : Img} {box : Array Value} {xs : List Int} {v : Value} {wr : World} (h : BRel w m box xs v wr) (o : Obj) : BRel w m box xs v (wr.alloc o) := h.on ((Below.refl _ _).alloc (Nat.le_refl _) o)
set_option maxRecDepth 100000 in
set_option maxHeartbeats 4000000 in
theorem simageBytes_c (m : Img) (vc vd vn : Value) (w : World) (h : ICells w vc vd vn m) (hb : ImgBd m) :
    Calls Try.prog 84 #[imgVal vc vd vn m] w fun e w' => ∃ v, e = .returned v ∧ w'.ownsRow w.heap.size 3 1 v (imgBytes m).length (ints (imgBytes m)) ∧ Below w.heap.size w w' := by
  obtain ⟨ac, cc, rfl⟩ := rd_slice h.c
  obtain ⟨ad, cd, rfl⟩ := rd_slice h.d
  obtain ⟨an, cn, rfl⟩ := nrd_slice h.n
  have HI := hid h
  have HBd := hid hb
  have b0 := hb.c0
  have b1 := hb.c1
  have b2 := hb.e0
  have b3 := hb.e1
  have b4 := hb.n1
  have hll := head_len hb
  have HF := hid (front_nine m hb)
  have HX0 := hid (Row.new w 48 #[.slice ac m.code.length cc, .int .i64 m.entry, .int .i64 m.room, .slice ad m.data.length cd, .slice an m.names.length cn])
  have HB0 := hid ((Below.refl w.heap.size w).alloc (Nat.le_refl _) (.cells #[.slice ac m.code.length cc, .int .i64 m.entry, .int .i64 m.room, .slice ad m.data.length cd, .slice an m.names.length cn] 48))
  clear h hb
  have hV : imgVal (.slice ac m.code.length cc) (.slice ad m.data.length cd) (.slice an m.names.length cn) m = .agg #[.slice ac m.code.length cc, .int .i64 m.entry, .int .i64 m.room, .slice ad m.data.length cd, .slice an m.names.length cn] := rfl
  rw [hV]
  clear hV
  go_enter Try.func84, Try.ntmps84
  go_wp2_with fail
  have HR0 := hid (show BRel w m #[.slice ac m.code.length cc, .int .i64 m.entry, .int .i64 m.room, .slice ad m.data.length cd, .slice an m.names.length cn] (imgFront m ++ namesBytes (m.names.take 0)) (.slice (some ⟨w.heap.size + 1, 0, none⟩) 9 9)
      ((w.alloc (.cells #[.slice ac m.code.length cc, .int .i64 m.entry, .int .i64 m.room, .slice ad m.data.length cd, .slice an m.names.length cn] 48)).alloc (.cells #[.int .i64 108, .int .i64 99, .int .i64 ((m.code.length : Int) % 256), .int .i64 ((m.code.length : Int) / 256), .int .i64 (m.entry % 256), .int .i64 (m.entry / 256), .int .i64 m.room, .int .i64 m.data.length, .int .i64 m.names.length] 3)) from by
    have e : imgFront m ++ namesBytes (m.names.take 0) = imgFront m := by simp [namesBytes]
    rw [e]
    refine ⟨?_, HX0.out.alloc _, HB0.out.alloc HB0.out.size _⟩
    have := own_lit (w.alloc (.cells #[.slice ac m.code.length cc, .int .i64 m.entry, .int .i64 m.room, .slice ad m.data.length cd, .slice an m.names.length cn] 48)) (imgFront m) #[.int .i64 108, .int .i64 99, .int .i64 ((m.code.length : Int) % 256), .int .i64 ((m.code.length : Int) / 256), .int .i64 (m.entry % 256), .int .i64 (m.entry / 256), .int .i64 m.room, .int .i64 m.data.length, .int .i64 m.names.length] (by rw [← HF.out]; rfl) (by rw [front_len]; decide) 9 (by rw [front_len])
    rw [World.size_alloc] at this
    exact this)
  go_loopw [3, 4] (fun v c wr => ∃ k : Nat, c = .int .i64 k ∧ k ≤ m.names.length ∧ BRel w m #[.slice ac m.code.length cc, .int .i64 m.entry, .int .i64 m.room, .slice ad m.data.length cd, .slice an m.names.length cn] (imgFront m ++ namesBytes (m.names.take k)) v wr) (fun _ c _ => m.names.length - (intOf c).toNat)
  case atStart => exact ⟨0, rfl, by omega, HR0.out⟩
  case round =>
    obtain ⟨k, rfl, hk, hrel⟩ := hrel
    have HR := hid hrel
    have hzr := hrel.size
    have hlk := head_names m k HBd.out
    have x4 := hrel.box.cell 4
    simp at x4
    have HBw := hid hrel.bel
    clear hrel HR0
    by_cases hlt : k < m.names.length
    · rcases HI.out.n with ⟨a', c', e', hn⟩
      simp only [Value.slice.injEq] at e'
      obtain ⟨rfl, _, rfl⟩ := e'
      rcases hn with h | ⟨g, o, rfl, hg, hc⟩
      · rw [h] at hlt; simp at hlt
      obtain ⟨c0, c1⟩ := hc k hlt
      have h8 := HBd.out.text8 (m.names.getD k .none) (by simp [hlt])
      have hat := HBd.out.at0 k hlt
      obtain ⟨ha0, ha1⟩ := hat
      have HSucc := hid (namesBytes_succ m.names k hlt)
      obtain ⟨⟨t, x⟩, hn⟩ : ∃ n, m.names.getD k .none = n := ⟨_, rfl⟩
      rw [hn] at c0 c1 h8 ha0 ha1 HSucc
      simp only at c0 c1 h8 ha0 ha1
      have q0 := (HBw.out.cell (p := ⟨g, o + k * 2, none⟩) hg).trans c0
      have HC0 := hid c0
      have HC1 := hid c1
      clear hc c0 c1 hn
      obtain ⟨L, hL⟩ : ∃ L, imgFront m ++ namesBytes (m.names.take k) = L := ⟨_, rfl⟩
      rw [hL] at HR hlk
      have HL := hid hL
      have hk1 : (k : Int) < m.names.length := by omega
      have hk0 : 0 ≤ (k : Int) := by omega
      clear hL
      go_wp2_with (at_builtin; refine app_ints _ rfl _ _ rfl (w.heap.size + 1) L [(t.size : Int)] _ rfl (HR.out.own.alloc _) _ _ _ rfl rfl (SrcAt.at_ _ [(t.size : Int)] #[.int .i64 t.size] _ 1 rfl (by simp) rfl) (by simp; omega) (by simp; omega) ?_)
      intro v5 w5 hg5
      have hr5 := (HR.out.alloc (.cells #[.int .i64 t.size] 3)).grow hg5
      obtain ⟨L5, hL5⟩ : ∃ l, L ++ [(t.size : Int)] = l := ⟨_, rfl⟩
      have hn5 : L5.length = L.length + 1 := by rw [← hL5, List.length_append]; rfl
      rw [hL5] at hr5
      have HR5 := hid hr5
      have HE5 := hid hL5
      clear hg5 hr5 hL5 q0 x4
      go_wp2_with fail
      go_loopw [3, 5] (fun v c wq => ∃ j : Nat, c = .int .i64 j ∧ j ≤ t.size ∧ BRel w m #[.slice ac m.code.length cc, .int .i64 m.entry, .int .i64 m.room, .slice ad m.data.length cd, .slice (some ⟨g, o, none⟩) m.names.length cn] (L5 ++ (textInts t).take j) v wq) (fun _ c _ => t.size - (intOf c).toNat)
      case atStart => exact ⟨0, rfl, by omega, by simpa using HR5.out⟩
      case round =>
        obtain ⟨j, rfl, hj, hrel⟩ := hrel
        have HRj := hid hrel
        have hzj := hrel.size
        have x4 := hrel.box.cell 4
        simp at x4
        have q0 := (hrel.bel.cell (p := ⟨g, o + k * 2, none⟩) hg).trans HC0.out
        have q1 := (hrel.bel.cell (p := ⟨g, o + k * 2 + 1, none⟩) hg).trans HC1.out
        have hlen : (L5 ++ (textInts t).take j).length = L5.length + j := by rw [List.length_append, List.length_take, textInts_len]; omega
        have HLen := hid hlen
        clear hrel hlen
        by_cases hjt : j < t.size
        · have hu := t[j].toNat_lt
          have hsn := text_succ t j hjt
          obtain ⟨y, hy⟩ : ∃ y, t[j].toNat = y := ⟨_, rfl⟩
          rw [hy] at hsn
          have HSn := hid hsn
          clear hsn
          go_wp2_with (at_builtin; refine app_ints _ rfl _ _ rfl (w.heap.size + 1) (L5 ++ (textInts t).take j) [(y : Int)] _ rfl (HRj.out.own.alloc _) _ _ _ rfl rfl (SrcAt.at_ _ [(y : Int)] #[.int .i64 y] _ 1 rfl (by simp) rfl) (by have := HLen.out; simp only [List.length_cons, List.length_nil]; omega) (by simp; omega) ?_)
          intro v6 w6 hg6
          have HR6 := hid ((HRj.out.alloc (.cells #[.int .i64 y] 3)).grow hg6)
          rw [← HSn.out] at HR6
          clear hg6 q0 q1 x4 hy
          go_wp2_with fail
          go_roundw
          case rel => exact ⟨j + 1, by go_num, by omega, HR6.out⟩
          case measure => simp [intOf]; omega
        · obtain rfl : j = t.size := by omega
          have he : (textInts t).take t.size = textInts t := List.take_of_length_le (by rw [textInts_len]; exact Nat.le_refl _)
          rw [he] at HRj HLen
          obtain ⟨L6, hL6⟩ : ∃ l, L5 ++ textInts t = l := ⟨_, rfl⟩
          rw [hL6] at HRj HLen
          have hn6 : L6.length = L5.length + t.size := HLen.out
          have HE6 := hid hL6
          clear he hL6
          go_upto_region 10 with fail
          have HRd := hid ((HRj.out.alloc (.cells #[.int .i64 (x % 256), .int .i64 (x / 256)] 3)).on (Below.refl _ _).drew)
          have e3 : IntKind.i64.wrap (x / 256) = x / 256 := IntWalk.i64_in _ (by omega)
          have e1 : x.tmod 256 = x % 256 := by rw [Int.tmod_eq_emod_of_nonneg (by omega)]
          have e2 : x.tdiv 256 = x / 256 := Int.tdiv_eq_ediv_of_nonneg (by omega)
          have hs7 : L6 ++ [x % 256, x / 256] = imgFront m ++ namesBytes (m.names.take (k + 1)) := by
            have e : bytesOf x 2 = [x % 256, x / 256] := by
              show [x % 256, x / 256 % 256] = _
              rw [show x / 256 % 256 = x / 256 by omega]
            rw [HSucc.out, ← HE6.out, ← HE5.out, ← HL.out, ← e]
            simp [nmBytes]
          have HS7 := hid hs7
          clear hs7
          go_region_law (go_loud (refine stp_ints _ rfl _ _ rfl (w.heap.size + 1) L6 [x % 256, x / 256] _ (by rfl) HRd.out.own _ _ _ rfl rfl (SrcAt.at_ _ [x % 256, x / 256] #[.int .i64 (x % 256), .int .i64 (x / 256)] _ 2 rfl (by simp) rfl).drew (by simp; omega) (by simp; omega) ?_; intro v7 w7 hg7; have HR7 := hid (HRd.out.grow hg7); clear hg7))
          all_goals
            rw [HS7.out] at HR7
            clear q0 q1 x4 e1 e2 e3
            go_wp2_with fail
            go_roundw
            case rel => exact ⟨k + 1, by go_num, by omega, HR7.out⟩
            case measure => simp [intOf]; omega
    · obtain rfl : k = m.names.length := by omega
      rw [List.take_length] at HR
      have hlh : (imgFront m ++ namesBytes m.names ++ m.code ++ m.data).length ≤ 2205 := hll
      obtain ⟨L, hL⟩ : ∃ L, imgFront m ++ namesBytes m.names = L := ⟨_, rfl⟩
      rw [hL] at HR hlh
      have HL := hid hL
      simp only [List.length_append] at hlh
      clear hL hll hlk
      have HRd := hid (HR.out.on (Below.refl _ _).drew)
      have HSc := hid (SrcAt.of_rd (HI.out.on HBw.out).c).drew
      have HI5 := hid (fun (w5 : World) (h : Below w.heap.size w w5) => SrcAt.of_rd (HI.out.on h).d)
      have hcap : (L ++ m.code).length = L.length + m.code.length := List.length_append ..
      have HCl := hid hcap
      clear hcap
      go_upto_region 11 with fail
      have x0 := HR.out.box.cell 0
      have x3 := HR.out.box.cell 3
      simp at x0 x3
      go_cut [3] (fun s3 wx => BRel w m #[.slice ac m.code.length cc, .int .i64 m.entry, .int .i64 m.room, .slice ad m.data.length cd, .slice an m.names.length cn] (L ++ m.code ++ m.data) s3 wx)
      case first =>
        go_region_law (first
          | (refine stp_ints _ rfl _ _ rfl (w.heap.size + 1) L m.code _ (by rfl) HRd.out.own _ _ _ rfl rfl HSc.out (by omega) (by simp; omega) ?_; intro v5 w5 hg5; have HR5 := hid (HRd.out.grow hg5); have y3 := HR5.out.box.cell 3; simp at y3; clear hg5)
          | (refine stp_ints _ rfl _ _ rfl (w.heap.size + 1) (L ++ m.code) m.data _ (by rfl) HR5.out.own _ _ _ rfl rfl (HI5.out _ HR5.out.bel) (by have := HCl.out; omega) (by have := HR5.out.size; omega) ?_; intro v6 w6 hg6; have HR6 := hid (HR5.out.grow hg6); clear hg6))
        all_goals
          go_wp2_with fail
          go_meet
          exact HR6.out
      case rest =>
        have HH := hid (show L ++ m.code ++ m.data = imgHead m by rw [← HL.out]; rfl)
        rw [HH.out] at hcut
        obtain ⟨L6, hL6⟩ : ∃ l, imgHead m = l := ⟨_, rfl⟩
        have hn6 : L6.length = L.length + m.code.length + m.data.length := by rw [← hL6, ← HH.out, List.length_append, List.length_append]
        have hby := head_byte HBd.out
        rw [hL6] at hcut hby
        have HBy := hid hby
        have HE6 := hid hL6
        have HR6 := hid hcut
        have hz6 := hcut.size
        clear hcut hby hL6 x0 x3 x4
        go_wp2_with fail
        refine (checkOf_c L6 _ _ (.of_own HR6.out.own) (by omega) HBy.out).mono ?_
        rintro e w7 ⟨rfl, rfl⟩
        obtain ⟨z, hz⟩ : ∃ z, chk L6 = z := ⟨_, rfl⟩
        rw [hz]
        have HZ := hid hz
        clear hz
        go_wp2_with (at_builtin; refine app_ints _ rfl _ _ rfl (w.heap.size + 1) L6 [z] _ rfl (HR6.out.own.alloc _) _ _ _ rfl rfl (SrcAt.at_ _ [z] #[.int .i64 z] _ 1 rfl (by simp) rfl) (by simp; omega) (by simp; omega) ?_)
        intro v7 w7 hg7
        have HR7 := hid ((HR6.out.alloc (.cells #[.int .i64 z] 3)).grow hg7)
        have HF7 := hid (show L6 ++ [z] = imgBytes m by rw [← HZ.out, ← HE6.out]; rfl)
        rw [HF7.out] at HR7
        clear hg7
        go_wp2_with fail
        go_ret
        exact ⟨_, rfl, own_mono HR7.out.own (Nat.le_succ _), HR7.out.bel⟩
theorem sImageBytes_c (m : Img) (vc vd vn : Value) (w : World) (h : ICells w vc vd vn m) (hs : Sm m) :
    Calls Try.prog 35 #[imgVal vc vd vn m] w (BytesPost m w) := by
  have HI := hid h
  have HS := hid hs
  have HX0 := hid (Row.new w 48 #[vc, .int .i64 m.entry, .int .i64 m.room, vd, vn])
  have HB0 := hid ((Below.refl w.heap.size w).alloc (Nat.le_refl _) (.cells #[vc, .int .i64 m.entry, .int .i64 m.room, vd, vn] 48))
  clear h hs
  have hV : imgVal vc vd vn m = .agg #[vc, .int .i64 m.entry, .int .i64 m.room, vd, vn] := rfl
  rw [hV]
  clear hV
  go_enter Try.func35, Try.ntmps35
  go_wp2_with fail
  refine (validImage_c m vc vd vn _ (HI.out.on HB0.out) HS.out).mono ?_
  rintro e w1 ⟨rfl, hb1⟩
  have HX1 := hid (HX0.out.on hb1)
  have HB1 := hid (HB0.out.trans (hb1.mono HB0.out.size))
  have hz1 := hb1.size
  simp only [World.size_alloc] at hz1
  have hw1 : w.heap.size < w1.heap.size := by omega
  clear hb1
  cases hok : imageOk m
  · have HOk := hid hok
    clear hok
    go_wp2_with fail
    go_ret
    refine ⟨_, rfl, ?_, HB1.out⟩
    have e : bts m = [] := by rw [bts, HOk.out]; rfl
    rw [e]
    exact World.ownsRow_nil _ _ _ _
  · have HBd := hid (imageOk_bd hok)
    have HBts := hid (show bts m = imgBytes m by rw [bts, hok]; rfl)
    clear hok
    have x0 := HX1.out.cell 0
    have x1 := HX1.out.cell 1
    have x2 := HX1.out.cell 2
    have x3 := HX1.out.cell 3
    have x4 := HX1.out.cell 4
    simp at x0 x1 x2 x3 x4
    go_wp2_with fail
    refine (simageBytes_c m vc vd vn _ (HI.out.on HB1.out) HBd.out).mono ?_
    rintro e w2 ⟨v, rfl, hown, hb2⟩
    have HO := hid hown
    have HB2 := hid (HB1.out.trans (hb2.mono HB1.out.size))
    clear hown hb2
    go_wp2_with fail
    go_ret
    exact ⟨_, rfl, by rw [HBts.out]; exact own_mono HO.out HB1.out.size, HB2.out⟩
end Go.Proofs.Ytihhpgklpichgab.Im
