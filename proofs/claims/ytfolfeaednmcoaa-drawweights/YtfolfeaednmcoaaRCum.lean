/- The document's finite, Cumulate, Place, Pick; what both answer. -/
import Derived.Test.YtfolfeaednmcoaaPlaces
namespace Go.Proofs.Ytfolfeaednmcoaa
open Go.RowKit Ieee
set_option linter.unusedVariables false
set_option linter.unusedSimpArgs false
/-- an operation that has no answer draws what is no number -/
theorem run_nan (op : BinOp) (x y : Nat) (w : World) (h : floatBits op .f64 x y = none) (hop : op = .add ∨ op = .sub ∨ op = .quo) : ∃ r, INF < rg r ∧ (binOp op 29 (.float .f64 x) (.float .f64 y)).run Try.prog w = .ok (.float .f64 r) (w.drewN 1) := by
  unfold floatBits at h
  refine ⟨(Question.nanBits .f64 x y).cut (w.tape w.drawn (.nanBits .f64 x y)), ?_, ?_⟩
  · show INF < rg ((_ % 2) * 2 ^ 63 + 0x7ff0000000000000 + 1 + _ % (2 ^ 52 - 1))
    unfold rg
    generalize w.tape w.drawn (.nanBits .f64 x y) = t
    have e : t % 2 * 2 ^ 63 + 0x7ff0000000000000 + 1 + t / 2 % (2 ^ 52 - 1) = (0x7ff0000000000000 + 1 + t / 2 % (2 ^ 52 - 1)) + 2 ^ 63 * (t % 2) := by omega
    rw [e, Nat.add_mul_mod_self_left, Nat.mod_eq_of_lt (by omega)]
    simp only [INF]
    omega
  · rcases hop with rfl | rfl | rfl
    all_goals
      simp only at h
      simp [binOp, Op.floatArith, h, Question.forced, World.drewN]
theorem arith_any (op : BinOp) (x y : Nat) (w : World) (hop : op = .add ∨ op = .sub ∨ op = .quo) : ∃ r q, (binOp op 29 (.float .f64 x) (.float .f64 y)).run Try.prog w = .ok (.float .f64 r) (w.drewN q) := by
  cases h : floatBits op .f64 x y with
  | none => obtain ⟨r, _, hr⟩ := run_nan op x y w h hop; exact ⟨r, 1, hr⟩
  | some r => exact ⟨r, 0, by rw [run_float_arith w op 29 .f64 x y r h]; simp [World.drewN]⟩
theorem finite_any (b : Nat) (w : World) : Calls Try.prog 34 #[.float .f64 b] w fun e w' => e = .returned (.bool (decide (rg b < INF))) ∧ ∃ q, w' = w.drewN q := by
  by_cases h : rg b < INF
  · have rS : (binOp .sub 29 (.float .f64 b) (.float .f64 b)).run Try.prog w = .ok (.float .f64 0) w := run_float_arith w .sub 29 .f64 _ _ _ (sub_self b h)
    have hq : (FloatKind.f64.format.order 0 0 == some .eq) = true := by decide +kernel
    have hd : decide (rg b < INF) = true := by simpa using h
    rw [hd]
    clear hd h
    go_enter Try.func34, Try.ntmps34
    go_wp2_with fail
    go_ret
    exact ⟨rfl, 0, by simp [World.drewN]⟩
  · obtain ⟨r, hr, hrun⟩ := run_nan .sub b b w (sub_none b (by omega)) (.inr (.inl rfl))
    have hq : (FloatKind.f64.format.order r 0 == some .eq) = false := by
      show (double.order r 0 == some .eq) = false
      rw [order_nan r 0 (.inl hr)]; rfl
    have hd : decide (rg b < INF) = false := by simpa using h
    rw [hd]
    clear hd h hr
    go_enter Try.func34, Try.ntmps34
    go_wp2_with fail
    go_ret
    exact ⟨rfl, 1, rfl⟩
theorem rplace_any (a : Option Addr) (n cap : Nat) (zs : List Nat) (x : Nat) (w : World) (hF : Fl w a n zs) :
    Calls Try.prog 20 #[.slice a n cap, .float .f64 x] w fun e w' => w' = w ∧ ((∃ k : Nat, PlaceIs zs x k ∧ e = .returned (.tuple #[.int .i64 k, .bool true])) ∨ (NoPlace zs x ∧ e = .returned (.tuple #[.int .i64 0, .bool false]))) := by
  have hl := hF.len
  have hs := hF.small
  go_enter Try.func20, Try.ntmps20
  go_wp2
  go_loopw [6] (fun t wr => ∃ k : Nat, k ≤ n ∧ t = .int .i64 k ∧ (∀ j, j < k → up x (zs.getD j 0) = false) ∧ w = wr) (fun t _ => n - (intOf t).toNat)
  case atStart => exact ⟨0, by omega, rfl, (fun j h => by omega), rfl⟩
  case round =>
    obtain ⟨k, hk, rfl, hU, rfl⟩ := hrel
    by_cases hlt : k < n
    · obtain ⟨b, o, rfl, hc⟩ := hF.cap k hlt
      have c1 := hc k hlt
      have k0 : (0 : Int) ≤ k := by omega
      have k1 : (k : Int) < n := by omega
      obtain ⟨z, hz⟩ : ∃ z, zs.getD k 0 = z := ⟨_, rfl⟩
      have HZ : Hid (zs.getD k 0 = z) := hz
      have HU : Hid (∀ j, j < k → up x (zs.getD j 0) = false) := hU
      have HN : Hid (zs.length = n) := hl
      rw [hz] at c1
      clear hz hU hF hl hc
      cases hd : up x z with
      | true =>
        have hg : (FloatKind.f64.format.order z x == some .gt) = true := hd
        have HD : Hid (up x z = true) := hd
        clear hd
        go_wp2_with fail
        go_ret2
        exact ⟨rfl, .inl ⟨k, ⟨by have := HN.out; omega, by rw [HZ.out]; exact HD.out, HU.out⟩, rfl⟩⟩
      | false =>
        have hg : (FloatKind.f64.format.order z x == some .gt) = false := hd
        have HD : Hid (up x z = false) := hd
        clear hd
        go_wp2_with fail
        go_roundw
        case rel => exact ⟨k + 1, by omega, by go_num, (fun j hj => by
          by_cases e : j = k
          · rw [e, HZ.out]; exact HD.out
          · exact HU.out j (by omega)), trivial⟩
        case measure => simp [intOf]; omega
    · obtain rfl : k = n := by omega
      have HU : Hid (∀ j, j < k → up x (zs.getD j 0) = false) := hU
      have HN : Hid (zs.length = k) := hl
      clear hU hl hF
      go_wp2_with fail
      go_ret2
      exact ⟨rfl, .inr ⟨by intro j hj; exact HU.out j (by have := HN.out; omega), rfl⟩⟩
theorem lt_fact {z : Nat} (h : rg z < INF) : (FloatKind.f64.format.order z 0 == some .lt) = decide (¬ mb z) := by
  show (double.order z 0 == some .lt) = _
  rw [order_fin z 0 h (by decide), sv_zero]
  change (compare (sv z) 0 == .lt) = _
  rw [cmp_lt, Bool.eq_iff_iff]
  simp only [decide_eq_true_iff]
  rw [sv_ng]
  unfold mb
  constructor
  · rintro ⟨h1, h2⟩ ⟨_, h3 | h3⟩
    · rw [h3] at h1; cases h1
    · omega
  · intro h1
    refine ⟨?_, ?_⟩
    · cases h2 : ng z with
      | true => rfl
      | false => exact absurd ⟨h, .inl h2⟩ h1
    · apply Nat.pos_of_ne_zero
      intro h2
      exact h1 ⟨h, .inr h2⟩
/-- what Cumulate answers -/
def Out (zs : List Nat) (nl : Nat) (L : List Nat) (er : Int) : Prop := (Good zs ∧ er = 0 ∧ nl = zs.length ∧ Sums zs L) ∨ (¬ Good zs ∧ er = 2 ∧ nl = 0 ∧ L = [])
theorem Out.one {zs : List Nat} {nl nl' : Nat} {L L' : List Nat} {er er' : Int} (h : Out zs nl L er) (h' : Out zs nl' L' er') : nl = nl' ∧ L = L' ∧ er = er' := by
  rcases h with ⟨a, b, c, d⟩ | ⟨a, b, c, d⟩ <;> rcases h' with ⟨a', b', c', d'⟩ | ⟨a', b', c', d'⟩
  · exact ⟨c.trans c'.symm, sums_unique a d d', b.trans b'.symm⟩
  · exact absurd a a'
  · exact absurd a' a
  · exact ⟨c.trans c'.symm, d.trans d'.symm, b.trans b'.symm⟩
theorem cum_any (a : Option Addr) (n cap : Nat) (zs : List Nat) (w : World) (hF : Fl w a n zs) (hcap : n ≤ cap) (hc2 : cap ≤ maxLen) :
    Calls Try.prog 15 #[.slice a n cap] w fun e w' => ∃ al nl cl L er, e = .returned (.tuple #[.slice al nl cl, .int .i64 er]) ∧ Out zs nl L er ∧ Fl w' al nl L ∧ (∀ b o, al = some ⟨b, o, none⟩ → w.heap.size ≤ b) ∧ Below w.heap.size w w' := by
  by_cases hG : Good zs
  · exact (cum_ok a n cap zs w hF hG hcap hc2).mono fun e w' ⟨l, L, hl, ⟨h1, h2, h3, h4⟩, he⟩ => ⟨_, _, _, L, 0, he, .inl ⟨hG, rfl, hF.len.symm, l, by rw [hF.len]; exact hl, h1, h2⟩, fl_new h3 (h1.trans hF.len) hF.small, (fun b o e => by cases e; exact Nat.le_refl _), h4⟩
  · exact (cum_no a n cap zs w hF hG).mono fun e w' ⟨hw, he⟩ => ⟨_, _, _, [], 2, he, .inr ⟨hG, rfl, rfl, rfl⟩, Fl.nil _, (fun b o e => by cases e), by rw [hw]; exact Below.refl _ _⟩
set_option maxRecDepth 100000 in
set_option maxHeartbeats 1000000 in
theorem rcum_any (a : Option Addr) (n cap : Nat) (zs : List Nat) (w : World) (hF : Fl w a n zs) :
    Calls Try.prog 16 #[.slice a n cap] w fun e w' => ∃ al nl cl L er, e = .returned (.tuple #[.slice al nl cl, .int .i64 er]) ∧ Out zs nl L er ∧ Fl w' al nl L ∧ (∀ b o, al = some ⟨b, o, none⟩ → w.heap.size ≤ b) ∧ Below w.heap.size w w' := by
  have hl := hF.len
  have hs := hF.small
  have HF : Hid (Fl w a n zs) := hF
  have HN : Hid (zs.length = n) := hl
  clear hF hl
  have hbad : Hid (∀ {wr : World}, Below w.heap.size w wr → ¬ Good zs → ∃ al nl cl L er, Ending.returned (.tuple #[.slice none 0 0, .int .i64 2]) = .returned (.tuple #[.slice al nl cl, .int .i64 er]) ∧ Out zs nl L er ∧ Fl wr al nl L ∧ (∀ b o, al = some ⟨b, o, none⟩ → w.heap.size ≤ b) ∧ Below w.heap.size w wr) := fun {wr} hb hG => ⟨_, _, _, [], 2, rfl, .inr ⟨hG, rfl, rfl, rfl⟩, Fl.nil _, (fun b o e => by cases e), hb⟩
  go_enter Try.func16, Try.ntmps16
  go_wp2_with fail
  go_loopw [4, 5] (fun l t wr => ∃ k last : Nat, k ≤ n ∧ t = .int .i64 k ∧ l = .int .i64 (if tot (zs.take k) = 0 then -1 else last) ∧ Hid (May zs k ∧ LastIs zs k last) ∧ Hid (∃ q, wr = w.drewN q)) (fun l t _ => n - (intOf t).toNat)
  case atStart => exact ⟨0, 0, by omega, rfl, by simp [tot], ⟨(fun j h => by omega), last_zero zs⟩, (⟨0, by simp [World.drewN]⟩ : ∃ q, w = w.drewN q)⟩
  case round =>
    obtain ⟨k, last, hk, rfl, rfl, HM, HQ⟩ := hrel
    have HBw : Hid (Below w.heap.size w wr) := by obtain ⟨q, hq⟩ := HQ.out; rw [hq]; exact below_drewN (Below.refl _ _) q
    have HFw : Hid (Fl wr a n zs) := HF.out.of_below HBw.out
    obtain ⟨lv, hlv⟩ : ∃ lv : Int, (if tot (zs.take k) = 0 then -1 else (last : Int)) = lv := ⟨_, rfl⟩
    have HLv : Hid ((if tot (zs.take k) = 0 then -1 else (last : Int)) = lv) := hlv
    rw [hlv]
    clear hlv
    by_cases hlt : k < n
    · obtain ⟨b, o, rfl, hc⟩ := HFw.out.cap k hlt
      have c1 := hc k hlt
      have k0 : (0 : Int) ≤ k := by omega
      have k1 : (k : Int) < n := by omega
      obtain ⟨z, hz⟩ : ∃ z, zs.getD k 0 = z := ⟨_, rfl⟩
      have HZ : Hid (zs.getD k 0 = z) := hz
      rw [hz] at c1
      clear hz hc
      go_wp2_with fail
      refine (finite_any z wr).mono ?_
      rintro e w1 ⟨rfl, q, rfl⟩
      have c2 : (wr.drewN q).cell? ⟨b, o + k, none⟩ = some (.float .f64 z) := c1
      have HQ2 : Hid (∃ q', wr.drewN q = w.drewN q') := by obtain ⟨p, hp⟩ := HQ.out; exact ⟨p + q, by rw [hp, drew_two]⟩
      have HB2 : Hid (Below w.heap.size w (wr.drewN q)) := below_drewN HBw.out q
      obtain ⟨wq, hwq⟩ : ∃ W, wr.drewN q = W := ⟨_, rfl⟩
      rw [hwq] at c2 HQ2 HB2 ⊢
      clear c1 hwq HQ HBw HFw
      by_cases hfin : rg z < INF
      · have hd : decide (rg z < INF) = true := by simpa using hfin
        have hl := lt_fact hfin
        rw [hd]
        clear hd hfin
        by_cases hmb : mb z
        · have hl1 : (FloatKind.f64.format.order z 0 == some .lt) = false := by rw [hl]; simpa using hmb
          have hg := gt_fact hmb wq
          have HM2 : Hid (May zs (k + 1)) := fun j hj => by
            by_cases e : j = k
            · rw [e, HZ.out]; exact hmb
            · exact HM.out.1 j (by omega)
          clear hl hmb
          by_cases hz0 : 0 < rg z
          · have hg1 : (FloatKind.f64.format.order z 0 == some .gt) = true := by rw [hg]; simpa using hz0
            have HZ0 : Hid (0 < rg z) := hz0
            clear hg hz0
            go_wp2_with fail
            go_roundw
            case rel => exact ⟨k + 1, k, by omega, by go_num, by
              have hl := last_yes HM.out.2 (by have := HN.out; omega) (by rw [HZ.out]; exact HZ0.out)
              rcases hl with ⟨_, h, _⟩ | ⟨_, _, _, h⟩
              · have := h k (by omega); rw [HZ.out] at this; have := HZ0.out; omega
              · rw [if_neg (by omega)], ⟨HM2.out, last_yes HM.out.2 (by have := HN.out; omega) (by rw [HZ.out]; exact HZ0.out)⟩, HQ2⟩
            case measure => simp [intOf]; omega
          · have hg1 : (FloatKind.f64.format.order z 0 == some .gt) = false := by rw [hg]; simpa using hz0
            have HZ0 : Hid (¬ 0 < rg z) := hz0
            clear hg hz0
            go_wp2_with fail
            go_roundw
            case rel => exact ⟨k + 1, last, by omega, by go_num, by
              have h1 := tot_succ zs k (by have := HN.out; omega)
              have h2 := S_pos (s := tot (zs.take k)) (b := z) (tot_le _)
              rw [HZ.out] at h1
              have h3 := HZ0.out
              have e : (tot (zs.take (k + 1)) = 0) = (tot (zs.take k) = 0) := by
                rw [h1]; apply propext; omega
              rw [← HLv.out]
              simp only [e], ⟨HM2.out, last_no HM.out.2 (by have := HN.out; omega) (by rw [HZ.out]; have := HZ0.out; omega)⟩, HQ2⟩
            case measure => simp [intOf]; omega
        · have hl1 : (FloatKind.f64.format.order z 0 == some .lt) = true := by rw [hl]; simpa using hmb
          have HX : Hid (¬ Good zs) := fun hG => hmb (by have := hG.1 k (by have := HN.out; omega); rwa [HZ.out] at this)
          clear hl hmb
          go_wp2_with fail
          go_ret2
          exact hbad.out HB2.out HX.out
      · have hd : decide (rg z < INF) = false := by simpa using hfin
        have HX : Hid (¬ Good zs) := fun hG => hfin (by have := (hG.1 k (by have := HN.out; omega)).1; rwa [HZ.out] at this)
        rw [hd]
        clear hd hfin
        go_wp2_with fail
        go_ret2
        exact hbad.out HB2.out HX.out
    · obtain rfl : k = n := by omega
      have he : zs.take k = zs := by rw [← HN.out, List.take_length]
      clear hlt hk
      by_cases ht : tot zs = 0
      · have hlv : lv = -1 := by rw [← HLv.out, he, if_pos ht]
        have HX : Hid (¬ Good zs) := fun hG => by have := hG.2.1; omega
        rw [hlv]
        clear hlv ht he
        go_wp2_with fail
        go_ret2
        exact hbad.out HBw.out HX.out
      · have hlv : lv = (last : Int) := by rw [← HLv.out, he, if_neg ht]
        have hlast : last < k := by
          rcases HM.out.2 with ⟨_, _, h⟩ | ⟨h, _⟩
          · rw [he] at h; exact absurd h ht
          · exact h
        have HT : Hid (tot zs ≠ 0) := ht
        rw [hlv]
        clear hlv ht HLv he
        obtain ⟨i0, hi, hz0, hz1, hz2⟩ := info_parts Try.info29
        go_wp2_with fail
        go_loopw [6, 7, 8] (fun s x t wx => ∃ (i : Nat) (L : List Nat), i ≤ k ∧ t = .int .i64 i ∧ x = .float .f64 (tot (zs.take i)) ∧ Hid (wx.ownsRow w.heap.size 29 1 s i (fvals L)) ∧ Hid (∀ j, j < i → L.getD j 0 = cumAt zs last j) ∧ Hid (Below w.heap.size w wx)) (fun s x t _ => k - (intOf t).toNat)
        case atStart => exact ⟨0, [], Nat.zero_le _, rfl, rfl, World.ownsRow_nil _ _ _ _, (fun j h => by omega : ∀ j, j < 0 → ([] : List Nat).getD j 0 = cumAt zs last j), HBw⟩
        case round =>
          clear HBw HFw HQ
          obtain ⟨i, L, hi', rfl, rfl, HR, HC, HB⟩ := hrel
          have HFx : Hid (Fl _ a k zs) := HF.out.of_below HB.out
          have hLn : Hid (L.length = i) := (by have := HR.out.1; simpa [fvals_length] using this : L.length = i)
          by_cases hlt : i < k
          · obtain ⟨b, o, rfl, hc⟩ := HFx.out.cap i hlt
            have c1 := hc i hlt
            have i0' : (0 : Int) ≤ i := by omega
            have i1' : (i : Int) < k := by omega
            have hT := tot_le (zs.take i)
            have hS := tot_succ zs i (by have := HN.out; omega)
            have hmb := HM.out.1 i hlt
            obtain ⟨z, hz⟩ : ∃ z, zs.getD i 0 = z := ⟨_, rfl⟩
            obtain ⟨T, hT'⟩ : ∃ T, tot (zs.take i) = T := ⟨_, rfl⟩
            rw [hz] at c1 hS hmb
            rw [hT'] at hT hS ⊢
            have rA : ∀ W, (binOp .add 29 (.float .f64 T) (.float .f64 z)).run Try.prog W = .ok (.float .f64 (S T z)) W := fun W => run_float_arith W .add 29 .f64 _ _ _ (add_S hT hmb)
            obtain ⟨T2, hT2⟩ : ∃ T2, S T z = T2 := ⟨_, rfl⟩
            rw [hT2] at rA hS
            have HS : Hid (tot (zs.take (i + 1)) = T2) := hS
            clear hz hT' hT2 hT hS hmb hc
            by_cases hil : i < last
            · have hil2 : (i : Int) < last := by omega
              have q1 : Hid (0 < i + 1) := Nat.succ_pos i
              have q2 : Hid (i + 1 ≤ maxLen) := by show i + 1 ≤ maxLen; unfold maxLen; omega
              have q3 : Hid ((i + 1) * 8 ≤ 140737488355328) := by show (i + 1) * 8 ≤ 140737488355328; omega
              have q4 : Hid (∀ o, w.heap.size ≤ (wr.alloc o).heap.size) := fun o => by have := HB.out.size; simp; omega
              have q5 : Hid (∀ j u, (fvals [T2])[j]? = some u → (wr.alloc (.cells #[.float .f64 T2] 29 (0, 0))).cell? ((⟨wr.heap.size, 0, none⟩ : Addr).add j) = some u) := fl_news (fl_new (n := 1) (blk_new wr [T2] _ rfl) rfl (by decide))
              go_wp2_with (refine wpList_append_form _ rfl (.tmp 51) (.tmp 53) 32 rfl w.heap.size 29 i0 (.float .f64 0) 1 8 Try.underlying32 hi hz0 hz1 hz2 rfl (by decide) _ i (fvals L) rfl (own_belowV HR.out ((Below.refl wr.heap.size wr).alloc (Nat.le_refl _) _) (Nat.le_refl _)) ⟨wr.heap.size, 0, none⟩ 1 1 (fvals [T2]) rfl rfl q5.out (fvals_one _) q1.out q2.out q3.out (q4.out _) ?_; intro g c w2 hown2 hgrow2)
              have HR2 : Hid (w2.ownsRow w.heap.size 29 1 (.slice (some ⟨g, 0, none⟩) (i + 1) c) (i + 1) (fvals (L ++ [T2]))) := by rw [fvals_append]; exact hown2
              have HB3 : Hid (Below w.heap.size w w2) := (HB.out.alloc HB.out.size _).grown hgrow2 (by have := HB.out.size; simp; omega) (fun k h => (HR.out.lt k h).1)
              clear hown2 hgrow2 q1 q2 q3 q4 q5
              go_wp2_with fail
              go_roundw
              case rel => exact ⟨i + 1, L ++ [T2], by omega, by go_num, by rw [HS.out], HR2, (fun j hj => by
                by_cases e : j < i
                · rw [← HC.out j e]; simp [List.getD, List.getElem?_append_left (show j < L.length by have := hLn.out; omega)]
                · have e : j = i := by omega
                  have e2 : j = L.length := by have := hLn.out; omega
                  have e3 : (L ++ [T2]).getD j 0 = T2 := by rw [e2]; simp [List.getD]
                  rw [e3, e]; unfold cumAt; rw [if_pos hil, HS.out] : ∀ j, j < i + 1 → (L ++ [T2]).getD j 0 = cumAt zs last j), HB3⟩
              case measure => simp [intOf]; omega
            · have hil2 : ¬ (i : Int) < last := by omega
              have q1 : Hid (0 < i + 1) := Nat.succ_pos i
              have q2 : Hid (i + 1 ≤ maxLen) := by show i + 1 ≤ maxLen; unfold maxLen; omega
              have q3 : Hid ((i + 1) * 8 ≤ 140737488355328) := by show (i + 1) * 8 ≤ 140737488355328; omega
              have q4 : Hid (∀ o, w.heap.size ≤ (wr.alloc o).heap.size) := fun o => by have := HB.out.size; simp; omega
              have q5 : Hid (∀ j u, (fvals [4607182418800017408])[j]? = some u → (wr.alloc (.cells #[.float .f64 4607182418800017408] 29 (0, 0))).cell? ((⟨wr.heap.size, 0, none⟩ : Addr).add j) = some u) := fl_news (fl_new (n := 1) (blk_new wr [4607182418800017408] _ rfl) rfl (by decide))
              go_wp2_with (refine wpList_append_form _ rfl (.tmp 55) (.tmp 56) 32 rfl w.heap.size 29 i0 (.float .f64 0) 1 8 Try.underlying32 hi hz0 hz1 hz2 rfl (by decide) _ i (fvals L) rfl (own_belowV HR.out ((Below.refl wr.heap.size wr).alloc (Nat.le_refl _) _) (Nat.le_refl _)) ⟨wr.heap.size, 0, none⟩ 1 1 (fvals [4607182418800017408]) rfl rfl q5.out (fvals_one _) q1.out q2.out q3.out (q4.out _) ?_; intro g c w2 hown2 hgrow2)
              have HR2 : Hid (w2.ownsRow w.heap.size 29 1 (.slice (some ⟨g, 0, none⟩) (i + 1) c) (i + 1) (fvals (L ++ [4607182418800017408]))) := by rw [fvals_append]; exact hown2
              have HB3 : Hid (Below w.heap.size w w2) := (HB.out.alloc HB.out.size _).grown hgrow2 (by have := HB.out.size; simp; omega) (fun k h => (HR.out.lt k h).1)
              clear hown2 hgrow2 q1 q2 q3 q4 q5
              go_wp2_with fail
              go_roundw
              case rel =>
                refine ⟨i + 1, L ++ [4607182418800017408], by omega, by go_num, by rw [HS.out], HR2, ?_, HB3⟩
                show ∀ j, j < i + 1 → (L ++ [4607182418800017408]).getD j 0 = cumAt zs last j
                intro j hj
                by_cases e : j < i
                · rw [← HC.out j e]; simp [List.getD, List.getElem?_append_left (show j < L.length by have := hLn.out; omega)]
                · have e : j = i := by omega
                  have e2 : j = L.length := by have := hLn.out; omega
                  have e3 : (L ++ [4607182418800017408]).getD j 0 = 4607182418800017408 := by rw [e2]; simp [List.getD]
                  rw [e3, e]; unfold cumAt; rw [if_neg hil]
              case measure => simp [intOf]; omega
          · obtain rfl : i = k := by omega
            have he : zs.take i = zs := by rw [← HN.out, List.take_length]
            rw [he]
            have hr := (rg_lt (tot_le zs)).1
            have hfi := finite_any (tot zs) wr
            rw [hr] at hfi
            obtain ⟨T, hT'⟩ : ∃ T, tot zs = T := ⟨_, rfl⟩
            have HT2 : Hid (tot zs = T) := hT'
            rw [hT'] at hfi ⊢
            clear hT' hr he hlt hi'
            go_wp2_with fail
            refine hfi.mono ?_
            rintro e w5 ⟨rfl, q, rfl⟩
            have HB5 : Hid (Below w.heap.size w (wr.drewN q)) := below_drewN HB.out q
            by_cases hTI : T < INF
            · have hd : decide (T < INF) = true := by simpa using hTI
              rw [hd]
              obtain ⟨g, c, hv, _⟩ := HR.out.form (show 0 < i by omega)
              subst hv
              have HG : Hid (Good zs) := ⟨by rw [HN.out]; exact HM.out.1, by have := HT.out; omega, by rw [HT2.out]; exact hTI⟩
              have HSu : Hid (Sums zs L) := ⟨last, by rw [HN.out]; exact HM.out.2, by rw [hLn.out, HN.out], fun j hj => HC.out j (by have := HN.out; omega)⟩
              have HFl : Hid (Fl (wr.drewN q) (some ⟨g, 0, none⟩) i L) := ⟨hLn.out, .inr ⟨g, 0, rfl, fun j hj => by rw [Nat.zero_add]; exact own_fl HR.out j hj⟩, hs⟩
              have HW : Hid (w.heap.size ≤ g) := (HR.out.lt g rfl).1
              clear hd hTI hfi HR HC HB
              go_wp2_with fail
              go_ret2
              exact ⟨_, _, _, L, 0, rfl, .inl ⟨HG.out, rfl, HN.out.symm, HSu.out⟩, HFl.out, (fun b o e => by cases e; exact HW.out), HB5.out⟩
            · have hd : decide (T < INF) = false := by simpa using hTI
              rw [hd]
              have HX : Hid (¬ Good zs) := fun hG => hTI (by rw [← HT2.out]; exact hG.2.2)
              clear hd hTI hfi HR HC HB
              go_wp2_with fail
              go_ret2
              exact hbad.out HB5.out HX.out
end Go.Proofs.Ytfolfeaednmcoaa
