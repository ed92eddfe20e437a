import Derived.Test.YtkdjahgndkdnhaaL
import Derived.Deep.DeepCutAuto
namespace Go.Proofs.Ytkdjahgndkdnhaa
open Go.RowKit Go.Maps
set_option linter.unusedVariables false
set_option linter.unusedSimpArgs false
theorem Arg.blt {w : World} {a : Option Addr} {len cap : Nat} {l : List Int} (h : Arg w a len cap l) : l.length = len := h.1
theorem ic_nth {l : List Nat} {i : Nat} (h : i < l.length) : (ic l)[i]? = some (.int .i64 (nth l i : Nat)) := by
  unfold ic; rw [List.getElem?_map, nth_get h]; rfl
section
variable {w W : World} {b : Nat} {rv : Value} {m : Nat} {ps : List Nat} {es did last sn : List Nat} {n dB D la : Nat} {X E : Nat → Nat} {st : Nat}
theorem Tu.below {W' : World} (h : Tu w W b rv m ps es did last sn n dB D la X E st) (hB : Below W.heap.size W W') : Tu w W' b rv m ps es did last sn n dB D la X E st := by
  have u : Upd Non W W' := Upd.ofBelow hB
  exact ⟨h.sc.below hB, h.hb.upd u (fun h => h), h.hD.upd u (fun h => h), fun i hi => (h.hX i hi).upd u (fun h => h), fun i hi => (h.hE i hi).upd u (fun h => h), h.hla.upd u (fun h => h), h.lps, h.les, h.ldid, h.llast, h.lsn, h.hes, h.hdid, h.hsn, h.bel.trans (hB.mono h.bel.size)⟩
theorem Tu.laid (h : Tu w W b rv m ps es did last sn n dB D la X E st) (hN : TuN w.heap.size b rv m ps n D la X E) (x v : Nat) : Tu w (W.setCell ⟨la, x, none⟩ (.int .i64 v)) b rv m ps es did (last.set x v) sn n dB D la X E st := by
  have u : Upd (At la) W (W.setCell ⟨la, x, none⟩ (.int .i64 v)) := Upd.setCell (p := ⟨la, x, none⟩) (Upd.refl (At la) W) (fun _ => rfl) _
  have hl := h.hla.set x (.int .i64 v)
  rw [ic_set] at hl
  refine ⟨h.sc.upd u ?_, h.hb.upd u (h.hb.ne h.hla (by decide)), h.hD.upd u hN.dl, fun i hi => (h.hX i hi).upd u (fun e => hN.lx i hi e.symm), fun i hi => (h.hE i hi).upd u (fun e => hN.le i hi e.symm), hl, h.lps, h.les, h.ldid, by simp [h.llast], h.lsn, h.hes, h.hdid, h.hsn, h.bel.setCell (p := ⟨la, x, none⟩) hN.oldl _⟩
  intro k hk hh
  rw [hh] at hk
  exact h.sc.not_sb h.hla (by decide) (by decide) (by decide) hk
theorem tu_alive : nums aliveB 0 (tuT dB X E es did sn n) = nums tq 0 (tuT dB X E es did sn n) := by
  apply nums_congr
  intro t ht
  simp only [tuT, List.mem_map] at ht
  obtain ⟨i, _, rfl⟩ := ht
  unfold tq aliveB tuK
  by_cases h : nth es i < nth did i <;> simp [h]
theorem tu_mem {x : Nat} (h : x ∈ nums tq 0 (tuT dB X E es did sn n)) : x < n := by
  obtain ⟨j, t, hj, ht, _⟩ := nums_iff.1 h
  have := (List.getElem?_eq_some_iff.1 ht).1
  simp [tuT] at this
  omega
/-- What a step does to who may go, and to who waits how long. -/
theorem tu_fair (h : Tu w W b rv m ps es did last sn n dB D la X E st) (hF : Fair n (nums tq 0 (tuT dB X E es did sn n)) (nth last) st) {x : Nat} (hx : (nums tq 0 (tuT dB X E es did sn n))[st % (nums tq 0 (tuT dB X E es did sn n)).length]? = some x) (hxn : x < n) (hde : nth did x ≤ nth es x) :
    Fair n (nums tq 0 (tuT dB X E es (did.set x (nth did x + 1)) (sn.set x (st + 1)) n)) (nth (last.set x st)) (st + 1) := by
  have e1 := tuT_set (dB := dB) (X := X) (E := E) (es := es) (d := nth did x + 1) (s := st + 1) hxn h.ldid h.lsn
  have e2 : nth (last.set x st) = fun i => if i = x then st else nth last i := by
    funext i
    by_cases e : i = x
    · subst e
      rw [nth_same (by rw [h.llast]; exact hxn)]; simp
    · rw [nth_ne (fun h => e h.symm)]; simp [e]
  have ht := tuT_at (dB := dB) (X := X) (E := E) (es := es) (did := did) (sn := sn) hxn
  have q1 : tq (tuK dB X E x (nth es x) (nth did x) (nth sn x)) = true := by
    unfold tq tuK
    simp [show ¬ nth es x < nth did x by omega]
  rw [← e1, e2]
  by_cases hc : nth es x < nth did x + 1
  · have q2 : tq (tuK dB X E x (nth es x) (nth did x + 1) (st + 1)) = false := by unfold tq tuK; simp [hc]
    exact hF.less hx (nums_set_len ht q1 q2) (fun i hi => nums_set_mem q2 hi)
  · have q2 : tq (tuK dB X E x (nth es x) (nth did x + 1) (st + 1)) = true := by unfold tq tuK; simp [hc]
    rw [nums_set_same ht (q2.trans q1.symm)]
    exact hF.same hx
end
set_option maxRecDepth 100000 in
set_option maxHeartbeats 1600000 in
theorem turns_walk (a : Option Addr) (len cap : Nat) (l : List Int) (w : World) (h : Arg w a len cap l) :
    Calls Try.prog 7 #[.slice a len cap] w fun e w' => e = .returned (.bool true) ∧ Below w.heap.size w w' := by
  have hmf : ∀ (fn : Fn) (first cap : Array Value) (w : World), (Instr.makeFunc fn first cap).run Try.prog w = .ok (.func fn first cap) w := fun _ _ _ _ => rfl
  obtain ⟨n, hn, hnl, hn64⟩ : ∃ n : Nat, n = min len 64 ∧ n ≤ len ∧ n ≤ 64 := ⟨_, rfl, by omega, by omega⟩
  have hmk := fun W => mk_ints W n hn64
  obtain ⟨es, hes⟩ : ∃ es, es = (l.take n).map Int.toNat := ⟨_, rfl⟩
  have hes1 : es.length = n := by rw [hes]; simp [h.1]; omega
  have hes2 : ∀ i, nth es i < 256 := by
    intro i
    by_cases hi : i < es.length
    · have h1 := nth_get hi
      have h2 : nth es i ∈ es := List.mem_of_getElem? h1
      rw [hes] at h2
      obtain ⟨x, hx, he⟩ := List.mem_map.1 h2
      have := h.2.1 x (List.mem_of_mem_take hx)
      rw [hes, ← he]
      omega
    · unfold nth
      rw [List.getD_eq_getElem?_getD, List.getElem?_eq_none (by omega)]
      decide
  have hes3 : ∀ (i : Nat) (x : Int), i < n → l[i]? = some x → 0 ≤ x → x = (nth es i : Nat) := by
    intro i x hi hx h0
    have : nth es i = x.toNat := nth_of (by rw [hes, List.getElem?_map, List.getElem?_take_of_lt hi, hx]; rfl)
    omega
  have h3 := h.2.2.1
  have hes1' : Hid (es.length = n) := hes1
  have hn' : Hid (n = min len 64) := hn
  clear hes hes1 hn
  go_enter Try.func7, Try.ntmps7
  go_upto_if 25 with (first
    | (go_at_call 8; refine (new_any _).mono ?_; rintro e w2 ⟨rfl, hS, hB2⟩)
    | (go_at_call 14; refine (lives_any _).mono ?_; rintro e w1 ⟨rfl, hB1⟩))
  go_cut [4] (fun t wc => t = .int .i64 n ∧ wc = w2)
  case first =>
    go_wp2
    · go_meet
      case rel => exact ⟨by have := hn'.out; congr 1; omega, rfl⟩
    · go_meet
      case rel => exact ⟨by have := hn'.out; congr 1; omega, rfl⟩
  case rest =>
    obtain ⟨rfl, rfl⟩ := hcut
    have B1 := Blk.new wc 3 (ic (List.replicate n 0))
    have B2 := Blk.new (wc.alloc (.cells (ic (List.replicate n 0)).toArray 3)) 30 [.slice (some ⟨wc.heap.size, 0, none⟩) n n]
    rw [World.size_alloc] at B2
    have al := fun (W : World) (o : Obj) => (Below.refl W.heap.size W).alloc (Nat.le_refl _) o
    have hw2 : Below w.heap.size w wc := hB1.trans (hB2.mono hB1.size)
    have hsz := hw2.size
    have hsz1 := hB1.size
    have S0 : SpT w ((wc.alloc (.cells (ic (List.replicate n 0)).toArray 3)).alloc (.cells #[.slice (some ⟨wc.heap.size, 0, none⟩) n n] 30)) (w1.heap.size + 1) (.slice none 0 0) w1.heap.size [] [] (fun _ => 0) (fun _ => 0) es 0 n (wc.heap.size + 1) wc.heap.size := by
      refine ⟨(hS.below (al _ _)).below (al _ _), rfl, rfl, B2, B1.alloc _, fun i hi => by omega, fun i hi => by omega, fun i hi => by omega, hsz, ?_, (hw2.alloc hsz _).alloc (by rw [World.size_alloc]; omega) _⟩
      rintro j (rfl | e | rfl | e)
      · omega
      · cases e
      · omega
      · simp at e
    have hsz' : Hid (w.heap.size ≤ wc.heap.size) := hsz
    clear hS hB1 hB2 B1 B2 hw2 hsz hsz1
    go_wp2
    go_loopw [6] (fun i wr => ∃ (k : Nat) (rv : Value) (ps : List Nat) (ts : List Tk) (X E : Nat → Nat), k ≤ n ∧ i = .int .i64 k ∧ SpT w wr (w1.heap.size + 1) rv w1.heap.size ps ts X E es k n (wc.heap.size + 1) wc.heap.size) (fun i _ => n - (intOf i).toNat)
    case atStart => exact ⟨0, _, _, _, _, _, Nat.zero_le _, rfl, S0⟩
    case round =>
      clear S0
      obtain ⟨k, rv, ps, ts, X, E, hk, rfl, S⟩ := hrel
      by_cases hlt : k < n
      · obtain ⟨B, off, x, rfl, hBl, hx, x0, x1, hcell⟩ := (h.below S.bel).at (j := k) (by omega)
        have hx' := hes3 k x hlt hx x0
        subst hx'
        have hlt' : (k : Int) < (n : Int) := by omega
        have HS := spawn_any ((S.sc.below (al wr (.cells #[.int .i64 (nth es k : Nat)] 3))).below (al _ (.cells #[.int .i64 k] 3))) (by rw [S.len]; omega) tName (.func 26) #[] #[ptr (wc.heap.size + 1), ptr (wr.heap.size + 1), ptr wr.heap.size]
        simp only [World.size_alloc] at HS
        clear hx
        go_wp2_with (go_at_call 13; refine HS.mono ?_; rintro e w3 ⟨rfl, rv', h1, h2, h3⟩)
        go_roundw
        case rel => exact ⟨k + 1, _, _, _, _, _, by omega, by go_num, S.step h1 h2 h3⟩
        case measure => simp [intOf]; omega
      · obtain rfl : k = n := by omega
        have hes4 : left es (List.replicate k 0) ≤ 16384 := by
          have := left_le es (List.replicate k 0) (fun e he => by
            obtain ⟨i, hi⟩ := List.mem_iff_getElem?.1 he
            rw [← nth_of hi]; exact hes2 i)
          rw [hes1'.out] at this
          omega
        have B3 := Blk.new wr 3 (ic (List.replicate k 0))
        have hN : TuN w.heap.size (w1.heap.size + 1) rv w1.heap.size ps k wc.heap.size wr.heap.size X E :=
          ⟨fun i hi => by have := S.new i hi; omega, fun i hi => by have := S.new i hi; omega, fun i hi => by have := (S.hX i hi).lt; omega, fun i hi => by have := (S.hE i hi).lt; omega, by have := S.hD.lt; omega, S.old, S.bel.size, S.olds⟩
        have T0 : Tu w (wr.alloc (.cells (ic (List.replicate k 0)).toArray 3)) (w1.heap.size + 1) rv w1.heap.size ps es (List.replicate k 0) (List.replicate k 0) (List.replicate k 0) k (wc.heap.size + 1) wc.heap.size wr.heap.size X E 0 :=
          ⟨S.tsk ▸ S.sc.below (al _ _), S.hb.alloc _, S.hD.alloc _, fun i hi => (S.hX i hi).alloc _, fun i hi => (S.hE i hi).alloc _, B3, S.len, hes1'.out, by simp, by simp, by simp, hes2, fun i => by rw [nth_rep]; omega, fun i => by rw [nth_rep]; omega, S.bel.trans ((al _ _).mono S.bel.size)⟩
        have F0 : Fair k (nums tq 0 (tuT (wc.heap.size + 1) X E es (List.replicate k 0) (List.replicate k 0) k)) (nth (List.replicate k 0)) 0 := Fair.begin (by
          have := nums_len tq 0 (tuT (wc.heap.size + 1) X E es (List.replicate k 0) (List.replicate k 0) k)
          simpa [tuT] using this)
        clear B3 S
        go_wp2
        go_loopw [12] (fun i w2 => ∃ (at_ : Nat) (did last sn : List Nat), i = .int .i64 at_ ∧ Tu w w2 (w1.heap.size + 1) rv w1.heap.size ps es did last sn k (wc.heap.size + 1) wc.heap.size wr.heap.size X E at_ ∧ Fair k (nums tq 0 (tuT (wc.heap.size + 1) X E es did sn k)) (nth last) at_ ∧ Hid (at_ + left es did ≤ 16384) ∧ Hid (∀ i, nth last i ≤ at_)) (fun i _ => 20000 - (intOf i).toNat)
        case atStart => exact ⟨0, _, _, _, rfl, T0, F0, by unfold Hid; omega, fun i => by rw [nth_rep]; omega⟩
        case round =>
          clear T0 F0
          obtain ⟨at_, did, last, sn, rfl, T, hF, hleft, hlast⟩ := hrel
          have hatl : at_ ≤ 16384 := by have := hleft.out; omega
          have HE := enabled_any T.sc (by rw [T.lps]; exact hn64) (by omega) T.ok
          rw [tu_nums] at HE
          obtain ⟨L, hL⟩ : ∃ L, L = nums tq 0 (tuT (wc.heap.size + 1) X E es did sn k) := ⟨_, rfl⟩
          rw [← hL] at HE
          by_cases hL0 : L = []
          · subst hL0
            have HA := fun W' hB => alive_any (T.below (W' := W') hB).sc (by rw [T.lps]; exact hn64)
            rw [tu_alive, ← hL] at HA
            clear hL hF
            go_wp2_with (first
              | (go_at_call 24; refine (HA _ hB3).mono ?_; rintro e w4 ⟨aa, ac, rfl, _, hB4⟩)
              | (go_at_call 19; refine HE.mono ?_; rintro e w3 ⟨ea, ec, rfl, _, hB3⟩))
            all_goals go_ret
            all_goals exact ⟨rfl, (T.below hB3).bel.trans (hB4.mono (T.below hB3).bel.size)⟩
          · have hLp : 0 < L.length := List.length_pos_iff.2 hL0
            obtain ⟨x, hx⟩ : ∃ x, L[at_ % L.length]? = some x := ⟨_, List.getElem?_eq_getElem (Nat.mod_lt _ hLp)⟩
            have HP := fun W' hB => tu_pick (T.below (W' := W') hB) hN hn64 (by omega) (L := L) (by rw [tu_nums, hL]) hx
            have hLp' : (0 : Int) < (L.length : Int) := by omega
            have hat' : (at_ : Int) < 20000 := by omega
            rw [hL] at hx
            have HX := fun hxn hde => tu_fair T hF hx hxn hde
            have hL' : Hid _ := hL
            clear hL hx hF hL0
            go_wp2_with (first
              | (go_at_call 16; refine (HP _ hB3).mono ?_; rintro e w4 ⟨rfl, hxn, hde, T4⟩
                 have l1 := T4.hla.cell1 x (.int .i64 (nth last x)) (ic_nth (by rw [T4.llast]; exact hxn))
                 have l2 := T4.hla.frozen x
                 have x1 : (x : Int) < (k : Int) := by omega
                 have x0 : (0 : Int) ≤ (x : Int) := by omega
                 have T5 := T4.laid hN x at_
                 have HE2 := enabled_any T5.sc (by rw [T.lps]; exact hn64) (by omega) T5.ok
                 rw [tu_nums] at HE2
                 have HF := HX hxn hde
                 have HB := fun i hi => HF.bound (i := i) hi
                 have HM := fun i hi => tu_mem (dB := wc.heap.size + 1) (X := X) (E := E) (es := es) (did := did.set x (nth did x + 1)) (sn := sn.set x (at_ + 1)) (n := k) (x := i) hi
                 obtain ⟨L2, hL2⟩ : ∃ L2, L2 = nums tq 0 (tuT (wc.heap.size + 1) X E es (did.set x (nth did x + 1)) (sn.set x (at_ + 1)) k) := ⟨_, rfl⟩
                 rw [← hL2] at HE2 HF HB HM
                 have hL2' : Hid _ := hL2
                 clear hL2
                 have hleft2 : Hid _ := left_set es did x (nth es x) (nth did x) (nth_get (by rw [T.les]; exact hxn)) (nth_get (by rw [T.ldid]; exact hxn)) hde
                 clear HX HP hde hxn T4 HE)
              | (go_at_call 19; refine HE2.mono ?_; rintro e w5 ⟨ea2, ec2, rfl, hr5, hB5⟩)
              | (go_at_call 19; refine HE.mono ?_; rintro e w3 ⟨ea, ec, rfl, _, hB3⟩))
            have T6 := T5.below hB5
            clear T5 l1 l2 HE2
            have hl2 := HF.1
            have hkk : k * k ≤ 4096 := Nat.mul_le_mul hn64 hn64
            have e1 : IntKind.i64.wrap (2 * (k : Int)) = 2 * (k : Int) := w64 _ (by omega) (by omega)
            have e2 : 2 * (k : Int) * (k : Int) = 2 * ((k * k : Nat) : Int) := by rw [Int.natCast_mul, Int.mul_assoc]
            have e3 : IntKind.i64.wrap (2 * (k : Int) * (k : Int)) = 2 * (k : Int) * (k : Int) := w64 _ (by omega) (by omega)
            have e2' : Hid _ := e2
            clear e2
            go_loopw [16] (fun i wi => ∃ j : Nat, j ≤ L2.length ∧ i = .int .i64 j ∧ wi = w5) (fun i _ => L2.length - (intOf i).toNat)
            case atStart => exact ⟨0, Nat.zero_le _, rfl, rfl⟩
            case round =>
              obtain ⟨j, hj, rfl, rfl⟩ := hrel
              by_cases hjl : j < L2.length
              · have hjl' : (j : Int) < (L2.length : Int) := by omega
                have hi := List.getElem?_eq_getElem hjl
                obtain ⟨g5, rfl, hc5⟩ := ic_cell hr5 hi
                have him : L2[j] ∈ L2 := List.getElem_mem hjl
                generalize L2[j] = i at hc5 him hi
                have hik := HM i him
                have hb := HB i him
                have hla := T6.hla.cell1 i (.int .i64 (nth (last.set x at_) i)) (ic_nth (by rw [T6.llast]; exact hik))
                have hik' : (i : Int) < (k : Int) := by omega
                have hi0 : (0 : Int) ≤ (i : Int) := by omega
                obtain ⟨v, hv⟩ : ∃ v, v = nth (last.set x at_) i := ⟨_, rfl⟩
                rw [← hv] at hla hb
                have hv0 : (0 : Int) ≤ (v : Int) := by omega
                have hv1 : (v : Int) ≤ 100000 := by
                  have := hlast.out i
                  by_cases e : x = i
                  · subst e; rw [nth_same (by rw [T.llast]; omega)] at hv; omega
                  · rw [nth_ne e] at hv; omega
                clear hv HB HM hi him hmk hes2 hes4
                have e2 := e2'.out
                have hno : ¬ (2 * (k : Int) * (k : Int) < (at_ : Int) - (v : Int)) := by omega
                clear e2 hb hkk
                go_wp2
                go_roundw
                case rel => exact ⟨j + 1, by omega, by go_num, trivial⟩
                case measure => simp [intOf]; omega
              · obtain rfl : j = L2.length := by omega
                go_wp2
                go_roundw
                case rel =>
                  refine ⟨at_ + 1, _, _, _, by go_num, T6, hL2'.out ▸ HF, ?_, ?_⟩
                  · have h1 := hleft.out
                    have h2 := hleft2.out
                    unfold Hid
                    omega
                  · intro i
                    have := hlast.out i
                    by_cases e : x = i
                    · subst e; rw [nth_same (by rw [T.llast]; omega)]; omega
                    · rw [nth_ne e]; omega
                case measure => simp [intOf]; omega
end Go.Proofs.Ytkdjahgndkdnhaa
