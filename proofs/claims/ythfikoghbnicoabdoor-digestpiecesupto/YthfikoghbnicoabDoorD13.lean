/- The sum of abc, round by round. -/
import Derived.Test.YthfikoghbnicoabDoorD12
namespace Go.Proofs.YthfikoghbnicoabDoor
open Go.RowKit

/-- The round keys. -/
def keysL : List Int := [1116352408, 1899447441, 3049323471, 3921009573, 961987163, 1508970993, 2453635748, 2870763221, 3624381080, 310598401, 607225278, 1426881987, 1925078388, 2162078206, 2614888103, 3248222580, 3835390401, 4022224774, 264347078, 604807628, 770255983, 1249150122, 1555081692, 1996064986, 2554220882, 2821834349, 2952996808, 3210313671, 3336571891, 3584528711, 113926993, 338241895, 666307205, 773529912, 1294757372, 1396182291, 1695183700, 1986661051, 2177026350, 2456956037, 2730485921, 2820302411, 3259730800, 3345764771, 3516065817, 3600352804, 4094571909, 275423344, 430227734, 506948616, 659060556, 883997877, 958139571, 1322822218, 1537002063, 1747873779, 1955562222, 2024104815, 2227730452, 2361852424, 2428436474, 2756734187, 3204031479, 3329325298]
def KL (k : Nat) : Int := keysL.getD k 0
/-- The state of no blocks. -/
def startL : List Int := [1779033703, 3144134277, 1013904242, 2773480762, 1359893119, 2600822924, 528734635, 1541459225]
def SL (k : Nat) : Int := startL.getD k 0
def vec8 (a b c d e f g h : Int) : Nat → Int
  | 0 => a
  | 1 => b
  | 2 => c
  | 3 => d
  | 4 => e
  | 5 => f
  | 6 => g
  | _ => h
theorem rnd_vec (a b c d e f g h k w : Int) : rnd (vec8 a b c d e f g h) k w = vec8 (IntKind.u32.wrap (t1S e f g h k w + t2S a b c)) a b c (IntKind.u32.wrap (d + t1S e f g h k w)) e f g := by
  funext j
  match j with
  | 0 => rfl
  | 1 => rfl
  | 2 => rfl
  | 3 => rfl
  | 4 => rfl
  | 5 => rfl
  | 6 => rfl
  | n + 7 => rfl
/-- The block of abc. -/
def blkA : List Int := [97, 98, 99] ++ padB 3
/-- Its words. -/
def WA : Nat → Int := ext (wrd (fun j => blkA.getD (64 * 0 + j) 0) 64) 48
theorem WA_low (t : Nat) (r : Int) (h : t < 16) (e : wrd (fun j => blkA.getD (64 * 0 + j) 0) 64 t = r) : WA t = r := (ext_base _ t h).trans e
theorem WA_next (i : Nat) (a b c d r : Int) (h : i < 48) (ha : WA (i + 14) = a) (hb : WA (i + 9) = b) (hc : WA (i + 1) = c) (hd : WA i = d) (e : nxt a b c d = r) : WA (i + 16) = r := by
  have := ext_rec (wrd (fun j => blkA.getD (64 * 0 + j) 0) 64) i h
  change WA (i + 16) = nxt (WA (i + 14)) (WA (i + 9)) (WA (i + 1)) (WA i) at this
  rw [this, ha, hb, hc, hd, e]
theorem rstep (v : Nat → Int) (t : Nat) (a b c d e f g h a' e' kt wt : Int) (hr : rnds v KL WA t = vec8 a b c d e f g h) (hk : KL t = kt) (hw : WA t = wt) (h1 : IntKind.u32.wrap (t1S e f g h kt wt + t2S a b c) = a') (h2 : IntKind.u32.wrap (d + t1S e f g h kt wt) = e') :
    rnds v KL WA (t + 1) = vec8 a' a b c e' e f g := by
  show rnd (rnds v KL WA t) (KL t) (WA t) = _
  rw [hr, hk, hw, rnd_vec, h1, h2]

theorem wa0 : WA 0 = 1633837952 := WA_low 0 _ (by decide) (by kernel_rfl)
theorem wa1 : WA 1 = 0 := WA_low 1 _ (by decide) (by kernel_rfl)
theorem wa2 : WA 2 = 0 := WA_low 2 _ (by decide) (by kernel_rfl)
theorem wa3 : WA 3 = 0 := WA_low 3 _ (by decide) (by kernel_rfl)
theorem wa4 : WA 4 = 0 := WA_low 4 _ (by decide) (by kernel_rfl)
theorem wa5 : WA 5 = 0 := WA_low 5 _ (by decide) (by kernel_rfl)
theorem wa6 : WA 6 = 0 := WA_low 6 _ (by decide) (by kernel_rfl)
theorem wa7 : WA 7 = 0 := WA_low 7 _ (by decide) (by kernel_rfl)
theorem wa8 : WA 8 = 0 := WA_low 8 _ (by decide) (by kernel_rfl)
theorem wa9 : WA 9 = 0 := WA_low 9 _ (by decide) (by kernel_rfl)
theorem wa10 : WA 10 = 0 := WA_low 10 _ (by decide) (by kernel_rfl)
theorem wa11 : WA 11 = 0 := WA_low 11 _ (by decide) (by kernel_rfl)
theorem wa12 : WA 12 = 0 := WA_low 12 _ (by decide) (by kernel_rfl)
theorem wa13 : WA 13 = 0 := WA_low 13 _ (by decide) (by kernel_rfl)
theorem wa14 : WA 14 = 0 := WA_low 14 _ (by decide) (by kernel_rfl)
theorem wa15 : WA 15 = 24 := WA_low 15 _ (by decide) (by kernel_rfl)
theorem wa16 : WA 16 = 1633837952 := WA_next 0 _ _ _ _ _ (by decide) wa14 wa9 wa1 wa0 (by kernel_rfl)
theorem wa17 : WA 17 = 983040 := WA_next 1 _ _ _ _ _ (by decide) wa15 wa10 wa2 wa1 (by kernel_rfl)
theorem wa18 : WA 18 = 2108187653 := WA_next 2 _ _ _ _ _ (by decide) wa16 wa11 wa3 wa2 (by kernel_rfl)
theorem wa19 : WA 19 = 1610613702 := WA_next 3 _ _ _ _ _ (by decide) wa17 wa12 wa4 wa3 (by kernel_rfl)
theorem wa20 : WA 20 = 1050508152 := WA_next 4 _ _ _ _ _ (by decide) wa18 wa13 wa5 wa4 (by kernel_rfl)
theorem wa21 : WA 21 = 25426944 := WA_next 5 _ _ _ _ _ (by decide) wa19 wa14 wa6 wa5 (by kernel_rfl)
theorem wa22 : WA 22 = 316456923 := WA_next 6 _ _ _ _ _ (by decide) wa20 wa15 wa7 wa6 (by kernel_rfl)
theorem wa23 : WA 23 = 3806512014 := WA_next 7 _ _ _ _ _ (by decide) wa21 wa16 wa8 wa7 (by kernel_rfl)
theorem wa24 : WA 24 = 3357629466 := WA_next 8 _ _ _ _ _ (by decide) wa22 wa17 wa9 wa8 (by kernel_rfl)
theorem wa25 : WA 25 = 3073800610 := WA_next 9 _ _ _ _ _ (by decide) wa23 wa18 wa10 wa9 (by kernel_rfl)
theorem wa26 : WA 26 = 3854317833 := WA_next 10 _ _ _ _ _ (by decide) wa24 wa19 wa11 wa10 (by kernel_rfl)
theorem wa27 : WA 27 = 845560923 := WA_next 11 _ _ _ _ _ (by decide) wa25 wa20 wa12 wa11 (by kernel_rfl)
theorem wa28 : WA 28 = 2636160359 := WA_next 12 _ _ _ _ _ (by decide) wa26 wa21 wa13 wa12 (by kernel_rfl)
theorem wa29 : WA 29 = 3968280267 := WA_next 13 _ _ _ _ _ (by decide) wa27 wa22 wa14 wa13 (by kernel_rfl)
theorem wa30 : WA 30 = 1881225380 := WA_next 14 _ _ _ _ _ (by decide) wa28 wa23 wa15 wa14 (by kernel_rfl)
theorem wa31 : WA 31 = 3552024379 := WA_next 15 _ _ _ _ _ (by decide) wa29 wa24 wa16 wa15 (by kernel_rfl)
theorem wa32 : WA 32 = 2482346367 := WA_next 16 _ _ _ _ _ (by decide) wa30 wa25 wa17 wa16 (by kernel_rfl)
theorem wa33 : WA 33 = 996719219 := WA_next 17 _ _ _ _ _ (by decide) wa31 wa26 wa18 wa17 (by kernel_rfl)
theorem wa34 : WA 34 = 2952069057 := WA_next 18 _ _ _ _ _ (by decide) wa32 wa27 wa19 wa18 (by kernel_rfl)
theorem wa35 : WA 35 = 4043988066 := WA_next 19 _ _ _ _ _ (by decide) wa33 wa28 wa20 wa19 (by kernel_rfl)
theorem wa36 : WA 36 = 176896406 := WA_next 20 _ _ _ _ _ (by decide) wa34 wa29 wa21 wa20 (by kernel_rfl)
theorem wa37 : WA 37 = 1924104970 := WA_next 21 _ _ _ _ _ (by decide) wa35 wa30 wa22 wa21 (by kernel_rfl)
theorem wa38 : WA 38 = 2483675966 := WA_next 22 _ _ _ _ _ (by decide) wa36 wa31 wa23 wa22 (by kernel_rfl)
theorem wa39 : WA 39 = 610538786 := WA_next 23 _ _ _ _ _ (by decide) wa37 wa32 wa24 wa23 (by kernel_rfl)
theorem wa40 : WA 40 = 2672279444 := WA_next 24 _ _ _ _ _ (by decide) wa38 wa33 wa25 wa24 (by kernel_rfl)
theorem wa41 : WA 41 = 4037431130 := WA_next 25 _ _ _ _ _ (by decide) wa39 wa34 wa26 wa25 (by kernel_rfl)
theorem wa42 : WA 42 = 1042573945 := WA_next 26 _ _ _ _ _ (by decide) wa40 wa35 wa27 wa26 (by kernel_rfl)
theorem wa43 : WA 43 = 657669027 := WA_next 27 _ _ _ _ _ (by decide) wa41 wa36 wa28 wa27 (by kernel_rfl)
theorem wa44 : WA 44 = 206005234 := WA_next 28 _ _ _ _ _ (by decide) wa42 wa37 wa29 wa28 (by kernel_rfl)
theorem wa45 : WA 45 = 2215296807 := WA_next 29 _ _ _ _ _ (by decide) wa43 wa38 wa30 wa29 (by kernel_rfl)
theorem wa46 : WA 46 = 2049510749 := WA_next 30 _ _ _ _ _ (by decide) wa44 wa39 wa31 wa30 (by kernel_rfl)
theorem wa47 : WA 47 = 106709978 := WA_next 31 _ _ _ _ _ (by decide) wa45 wa40 wa32 wa31 (by kernel_rfl)
theorem wa48 : WA 48 = 4215179723 := WA_next 32 _ _ _ _ _ (by decide) wa46 wa41 wa33 wa32 (by kernel_rfl)
theorem wa49 : WA 49 = 3430291419 := WA_next 33 _ _ _ _ _ (by decide) wa47 wa42 wa34 wa33 (by kernel_rfl)
theorem wa50 : WA 50 = 3118885940 := WA_next 34 _ _ _ _ _ (by decide) wa48 wa43 wa35 wa34 (by kernel_rfl)
theorem wa51 : WA 51 = 2845390439 := WA_next 35 _ _ _ _ _ (by decide) wa49 wa44 wa36 wa35 (by kernel_rfl)
theorem wa52 : WA 52 = 2226839261 := WA_next 36 _ _ _ _ _ (by decide) wa50 wa45 wa37 wa36 (by kernel_rfl)
theorem wa53 : WA 53 = 3256115900 := WA_next 37 _ _ _ _ _ (by decide) wa51 wa46 wa38 wa37 (by kernel_rfl)
theorem wa54 : WA 54 = 344409900 := WA_next 38 _ _ _ _ _ (by decide) wa52 wa47 wa39 wa38 (by kernel_rfl)
theorem wa55 : WA 55 = 2987358873 := WA_next 39 _ _ _ _ _ (by decide) wa53 wa48 wa40 wa39 (by kernel_rfl)
theorem wa56 : WA 56 = 4015503821 := WA_next 40 _ _ _ _ _ (by decide) wa54 wa49 wa41 wa40 (by kernel_rfl)
theorem wa57 : WA 57 = 3957764664 := WA_next 41 _ _ _ _ _ (by decide) wa55 wa50 wa42 wa41 (by kernel_rfl)
theorem wa58 : WA 58 = 2682456414 := WA_next 42 _ _ _ _ _ (by decide) wa56 wa51 wa43 wa42 (by kernel_rfl)
theorem wa59 : WA 59 = 2025622859 := WA_next 43 _ _ _ _ _ (by decide) wa57 wa52 wa44 wa43 (by kernel_rfl)
theorem wa60 : WA 60 = 2755645205 := WA_next 44 _ _ _ _ _ (by decide) wa58 wa53 wa45 wa44 (by kernel_rfl)
theorem wa61 : WA 61 = 1720397816 := WA_next 45 _ _ _ _ _ (by decide) wa59 wa54 wa46 wa45 (by kernel_rfl)
theorem wa62 : WA 62 = 4004225740 := WA_next 46 _ _ _ _ _ (by decide) wa60 wa55 wa47 wa46 (by kernel_rfl)
theorem wa63 : WA 63 = 313650667 := WA_next 47 _ _ _ _ _ (by decide) wa61 wa56 wa48 wa47 (by kernel_rfl)
/-- The state of no blocks, as it is met here. -/
def vS : Nat → Int := vec8 1779033703 3144134277 1013904242 2773480762 1359893119 2600822924 528734635 1541459225
theorem ra0 : rnds vS KL WA 0 = vec8 1779033703 3144134277 1013904242 2773480762 1359893119 2600822924 528734635 1541459225 := rfl
theorem ra1 : rnds vS KL WA 1 = vec8 1567288269 1779033703 3144134277 1013904242 4197074466 1359893119 2600822924 528734635 := rstep vS 0 _ _ _ _ _ _ _ _ _ _ 1116352408 _ ra0 (by kernel_rfl) wa0 (by kernel_rfl) (by kernel_rfl)
theorem ra2 : rnds vS KL WA 2 = vec8 1516951981 1567288269 1779033703 3144134277 2026797449 4197074466 1359893119 2600822924 := rstep vS 1 _ _ _ _ _ _ _ _ _ _ 1899447441 _ ra1 (by kernel_rfl) wa1 (by kernel_rfl) (by kernel_rfl)
theorem ra3 : rnds vS KL WA 3 = vec8 3368241063 1516951981 1567288269 1779033703 4180228587 2026797449 4197074466 1359893119 := rstep vS 2 _ _ _ _ _ _ _ _ _ _ 3049323471 _ ra2 (by kernel_rfl) wa2 (by kernel_rfl) (by kernel_rfl)
theorem ra4 : rnds vS KL WA 4 = vec8 3578852966 3368241063 1516951981 1567288269 618661968 4180228587 2026797449 4197074466 := rstep vS 3 _ _ _ _ _ _ _ _ _ _ 3921009573 _ ra3 (by kernel_rfl) wa3 (by kernel_rfl) (by kernel_rfl)
theorem ra5 : rnds vS KL WA 5 = vec8 71342698 3578852966 3368241063 1516951981 1135452741 618661968 4180228587 2026797449 := rstep vS 4 _ _ _ _ _ _ _ _ _ _ 961987163 _ ra4 (by kernel_rfl) wa4 (by kernel_rfl) (by kernel_rfl)
theorem ra6 : rnds vS KL WA 6 = vec8 725748213 71342698 3578852966 3368241063 1900175533 1135452741 618661968 4180228587 := rstep vS 5 _ _ _ _ _ _ _ _ _ _ 1508970993 _ ra5 (by kernel_rfl) wa5 (by kernel_rfl) (by kernel_rfl)
theorem ra7 : rnds vS KL WA 7 = vec8 3842179968 725748213 71342698 3578852966 2603066369 1900175533 1135452741 618661968 := rstep vS 6 _ _ _ _ _ _ _ _ _ _ 2453635748 _ ra6 (by kernel_rfl) wa6 (by kernel_rfl) (by kernel_rfl)
theorem ra8 : rnds vS KL WA 8 = vec8 2241887071 3842179968 725748213 71342698 207977081 2603066369 1900175533 1135452741 := rstep vS 7 _ _ _ _ _ _ _ _ _ _ 2870763221 _ ra7 (by kernel_rfl) wa7 (by kernel_rfl) (by kernel_rfl)
theorem ra9 : rnds vS KL WA 9 = vec8 2382687417 2241887071 3842179968 725748213 852110732 207977081 2603066369 1900175533 := rstep vS 8 _ _ _ _ _ _ _ _ _ _ 3624381080 _ ra8 (by kernel_rfl) wa8 (by kernel_rfl) (by kernel_rfl)
theorem ra10 : rnds vS KL WA 10 = vec8 2357671019 2382687417 2241887071 3842179968 482944406 852110732 207977081 2603066369 := rstep vS 9 _ _ _ _ _ _ _ _ _ _ 310598401 _ ra9 (by kernel_rfl) wa9 (by kernel_rfl) (by kernel_rfl)
theorem ra11 : rnds vS KL WA 11 = vec8 1201185780 2357671019 2382687417 2241887071 1131095016 482944406 852110732 207977081 := rstep vS 10 _ _ _ _ _ _ _ _ _ _ 607225278 _ ra10 (by kernel_rfl) wa10 (by kernel_rfl) (by kernel_rfl)
theorem ra12 : rnds vS KL WA 12 = vec8 4146054569 1201185780 2357671019 2382687417 2171590377 1131095016 482944406 852110732 := rstep vS 11 _ _ _ _ _ _ _ _ _ _ 1426881987 _ ra11 (by kernel_rfl) wa11 (by kernel_rfl) (by kernel_rfl)
theorem ra13 : rnds vS KL WA 13 = vec8 2274437520 4146054569 1201185780 2357671019 509051416 2171590377 1131095016 482944406 := rstep vS 12 _ _ _ _ _ _ _ _ _ _ 1925078388 _ ra12 (by kernel_rfl) wa12 (by kernel_rfl) (by kernel_rfl)
theorem ra14 : rnds vS KL WA 14 = vec8 3643992854 2274437520 4146054569 1201185780 1952073950 509051416 2171590377 1131095016 := rstep vS 13 _ _ _ _ _ _ _ _ _ _ 2162078206 _ ra13 (by kernel_rfl) wa13 (by kernel_rfl) (by kernel_rfl)
theorem ra15 : rnds vS KL WA 15 = vec8 3227803614 3643992854 2274437520 4146054569 194179596 1952073950 509051416 2171590377 := rstep vS 14 _ _ _ _ _ _ _ _ _ _ 2614888103 _ ra14 (by kernel_rfl) wa14 (by kernel_rfl) (by kernel_rfl)
theorem ra16 : rnds vS KL WA 16 = vec8 2969183118 3227803614 3643992854 2274437520 123276749 194179596 1952073950 509051416 := rstep vS 15 _ _ _ _ _ _ _ _ _ _ 3248222580 _ ra15 (by kernel_rfl) wa15 (by kernel_rfl) (by kernel_rfl)
theorem ra17 : rnds vS KL WA 17 = vec8 567974555 2969183118 3227803614 3643992854 2150900380 123276749 194179596 1952073950 := rstep vS 16 _ _ _ _ _ _ _ _ _ _ 3835390401 _ ra16 (by kernel_rfl) wa16 (by kernel_rfl) (by kernel_rfl)
theorem ra18 : rnds vS KL WA 18 = vec8 3271285201 567974555 2969183118 3227803614 2221859924 2150900380 123276749 194179596 := rstep vS 17 _ _ _ _ _ _ _ _ _ _ 4022224774 _ ra17 (by kernel_rfl) wa17 (by kernel_rfl) (by kernel_rfl)
theorem ra19 : rnds vS KL WA 19 = vec8 4269243327 3271285201 567974555 2969183118 3431569761 2221859924 2150900380 123276749 := rstep vS 18 _ _ _ _ _ _ _ _ _ _ 264347078 _ ra18 (by kernel_rfl) wa18 (by kernel_rfl) (by kernel_rfl)
theorem ra20 : rnds vS KL WA 20 = vec8 3790736435 4269243327 3271285201 567974555 2959311225 3431569761 2221859924 2150900380 := rstep vS 19 _ _ _ _ _ _ _ _ _ _ 604807628 _ ra19 (by kernel_rfl) wa19 (by kernel_rfl) (by kernel_rfl)
theorem ra21 : rnds vS KL WA 21 = vec8 2647034723 3790736435 4269243327 3271285201 2329577776 2959311225 3431569761 2221859924 := rstep vS 20 _ _ _ _ _ _ _ _ _ _ 770255983 _ ra20 (by kernel_rfl) wa20 (by kernel_rfl) (by kernel_rfl)
theorem ra22 : rnds vS KL WA 22 = vec8 3261099373 2647034723 3790736435 4269243327 3777329520 2329577776 2959311225 3431569761 := rstep vS 21 _ _ _ _ _ _ _ _ _ _ 1249150122 _ ra21 (by kernel_rfl) wa21 (by kernel_rfl) (by kernel_rfl)
theorem ra23 : rnds vS KL WA 23 = vec8 2812502591 3261099373 2647034723 3790736435 1240797514 3777329520 2329577776 2959311225 := rstep vS 22 _ _ _ _ _ _ _ _ _ _ 1555081692 _ ra22 (by kernel_rfl) wa22 (by kernel_rfl) (by kernel_rfl)
theorem ra24 : rnds vS KL WA 24 = vec8 3319086477 2812502591 3261099373 2647034723 2856829767 1240797514 3777329520 2329577776 := rstep vS 23 _ _ _ _ _ _ _ _ _ _ 1996064986 _ ra23 (by kernel_rfl) wa23 (by kernel_rfl) (by kernel_rfl)
theorem ra25 : rnds vS KL WA 25 = vec8 472655928 3319086477 2812502591 3261099373 673443729 2856829767 1240797514 3777329520 := rstep vS 24 _ _ _ _ _ _ _ _ _ _ 2554220882 _ ra24 (by kernel_rfl) wa24 (by kernel_rfl) (by kernel_rfl)
theorem ra26 : rnds vS KL WA 26 = vec8 3454534525 472655928 3319086477 2812502591 339230094 673443729 2856829767 1240797514 := rstep vS 25 _ _ _ _ _ _ _ _ _ _ 2821834349 _ ra25 (by kernel_rfl) wa25 (by kernel_rfl) (by kernel_rfl)
theorem ra27 : rnds vS KL WA 27 = vec8 3056518332 3454534525 472655928 3319086477 3343672598 339230094 673443729 2856829767 := rstep vS 26 _ _ _ _ _ _ _ _ _ _ 2952996808 _ ra26 (by kernel_rfl) wa26 (by kernel_rfl) (by kernel_rfl)
theorem ra28 : rnds vS KL WA 28 = vec8 2010346792 3056518332 3454534525 472655928 3992961016 3343672598 339230094 673443729 := rstep vS 27 _ _ _ _ _ _ _ _ _ _ 3210313671 _ ra27 (by kernel_rfl) wa27 (by kernel_rfl) (by kernel_rfl)
theorem ra29 : rnds vS KL WA 29 = vec8 909411017 2010346792 3056518332 3454534525 1628611511 3992961016 3343672598 339230094 := rstep vS 28 _ _ _ _ _ _ _ _ _ _ 3336571891 _ ra28 (by kernel_rfl) wa28 (by kernel_rfl) (by kernel_rfl)
theorem ra30 : rnds vS KL WA 30 = vec8 2684750640 909411017 2010346792 3056518332 2917635127 1628611511 3992961016 3343672598 := rstep vS 29 _ _ _ _ _ _ _ _ _ _ 3584528711 _ ra29 (by kernel_rfl) wa29 (by kernel_rfl) (by kernel_rfl)
theorem ra31 : rnds vS KL WA 31 = vec8 3935906338 2684750640 909411017 2010346792 17410874 2917635127 1628611511 3992961016 := rstep vS 30 _ _ _ _ _ _ _ _ _ _ 113926993 _ ra30 (by kernel_rfl) wa30 (by kernel_rfl) (by kernel_rfl)
theorem ra32 : rnds vS KL WA 32 = vec8 1941126133 3935906338 2684750640 909411017 3126399250 17410874 2917635127 1628611511 := rstep vS 31 _ _ _ _ _ _ _ _ _ _ 338241895 _ ra31 (by kernel_rfl) wa31 (by kernel_rfl) (by kernel_rfl)
theorem ra33 : rnds vS KL WA 33 = vec8 2564891911 1941126133 3935906338 2684750640 2631529974 3126399250 17410874 2917635127 := rstep vS 32 _ _ _ _ _ _ _ _ _ _ 666307205 _ ra32 (by kernel_rfl) wa32 (by kernel_rfl) (by kernel_rfl)
theorem ra34 : rnds vS KL WA 34 = vec8 4267724277 2564891911 1941126133 3935906338 1495571923 2631529974 3126399250 17410874 := rstep vS 33 _ _ _ _ _ _ _ _ _ _ 773529912 _ ra33 (by kernel_rfl) wa33 (by kernel_rfl) (by kernel_rfl)
theorem ra35 : rnds vS KL WA 35 = vec8 2846323596 4267724277 2564891911 1941126133 140458035 1495571923 2631529974 3126399250 := rstep vS 34 _ _ _ _ _ _ _ _ _ _ 1294757372 _ ra34 (by kernel_rfl) wa34 (by kernel_rfl) (by kernel_rfl)
theorem ra36 : rnds vS KL WA 36 = vec8 1705037796 2846323596 4267724277 2564891911 4105175766 140458035 1495571923 2631529974 := rstep vS 35 _ _ _ _ _ _ _ _ _ _ 1396182291 _ ra35 (by kernel_rfl) wa35 (by kernel_rfl) (by kernel_rfl)
theorem ra37 : rnds vS KL WA 37 = vec8 1101421745 1705037796 2846323596 4267724277 124953195 4105175766 140458035 1495571923 := rstep vS 36 _ _ _ _ _ _ _ _ _ _ 1695183700 _ ra36 (by kernel_rfl) wa36 (by kernel_rfl) (by kernel_rfl)
theorem ra38 : rnds vS KL WA 38 = vec8 887035396 1101421745 1705037796 2846323596 2768741693 124953195 4105175766 140458035 := rstep vS 37 _ _ _ _ _ _ _ _ _ _ 1986661051 _ ra37 (by kernel_rfl) wa37 (by kernel_rfl) (by kernel_rfl)
theorem ra39 : rnds vS KL WA 39 = vec8 1841658506 887035396 1101421745 1705037796 4034403272 2768741693 124953195 4105175766 := rstep vS 38 _ _ _ _ _ _ _ _ _ _ 2177026350 _ ra38 (by kernel_rfl) wa38 (by kernel_rfl) (by kernel_rfl)
theorem ra40 : rnds vS KL WA 40 = vec8 2045405306 1841658506 887035396 1101421745 519815328 4034403272 2768741693 124953195 := rstep vS 39 _ _ _ _ _ _ _ _ _ _ 2456956037 _ ra39 (by kernel_rfl) wa39 (by kernel_rfl) (by kernel_rfl)
theorem ra41 : rnds vS KL WA 41 = vec8 3597076326 2045405306 1841658506 887035396 641019235 519815328 4034403272 2768741693 := rstep vS 40 _ _ _ _ _ _ _ _ _ _ 2730485921 _ ra40 (by kernel_rfl) wa40 (by kernel_rfl) (by kernel_rfl)
theorem ra42 : rnds vS KL WA 42 = vec8 3745932591 3597076326 2045405306 1841658506 2206934801 641019235 519815328 4034403272 := rstep vS 41 _ _ _ _ _ _ _ _ _ _ 2820302411 _ ra41 (by kernel_rfl) wa41 (by kernel_rfl) (by kernel_rfl)
theorem ra43 : rnds vS KL WA 43 = vec8 397020670 3745932591 3597076326 2045405306 3737995029 2206934801 641019235 519815328 := rstep vS 42 _ _ _ _ _ _ _ _ _ _ 3259730800 _ ra42 (by kernel_rfl) wa42 (by kernel_rfl) (by kernel_rfl)
theorem ra44 : rnds vS KL WA 44 = vec8 2638983059 397020670 3745932591 3597076326 4255271982 3737995029 2206934801 641019235 := rstep vS 43 _ _ _ _ _ _ _ _ _ _ 3345764771 _ ra43 (by kernel_rfl) wa43 (by kernel_rfl) (by kernel_rfl)
theorem ra45 : rnds vS KL WA 45 = vec8 643991573 2638983059 397020670 3745932591 2819559920 4255271982 3737995029 2206934801 := rstep vS 44 _ _ _ _ _ _ _ _ _ _ 3516065817 _ ra44 (by kernel_rfl) wa44 (by kernel_rfl) (by kernel_rfl)
theorem ra46 : rnds vS KL WA 46 = vec8 1923828625 643991573 2638983059 397020670 3077922209 2819559920 4255271982 3737995029 := rstep vS 45 _ _ _ _ _ _ _ _ _ _ 3600352804 _ ra45 (by kernel_rfl) wa45 (by kernel_rfl) (by kernel_rfl)
theorem ra47 : rnds vS KL WA 47 = vec8 2706117808 1923828625 643991573 2638983059 3581645993 3077922209 2819559920 4255271982 := rstep vS 46 _ _ _ _ _ _ _ _ _ _ 4094571909 _ ra46 (by kernel_rfl) wa46 (by kernel_rfl) (by kernel_rfl)
theorem ra48 : rnds vS KL WA 48 = vec8 1098003085 2706117808 1923828625 643991573 4274981830 3581645993 3077922209 2819559920 := rstep vS 47 _ _ _ _ _ _ _ _ _ _ 275423344 _ ra47 (by kernel_rfl) wa47 (by kernel_rfl) (by kernel_rfl)
theorem ra49 : rnds vS KL WA 49 = vec8 91585771 1098003085 2706117808 1923828625 3178315832 4274981830 3581645993 3077922209 := rstep vS 48 _ _ _ _ _ _ _ _ _ _ 430227734 _ ra48 (by kernel_rfl) wa48 (by kernel_rfl) (by kernel_rfl)
theorem ra50 : rnds vS KL WA 50 = vec8 4045142696 91585771 1098003085 2706117808 1851537676 3178315832 4274981830 3581645993 := rstep vS 49 _ _ _ _ _ _ _ _ _ _ 506948616 _ ra49 (by kernel_rfl) wa49 (by kernel_rfl) (by kernel_rfl)
theorem ra51 : rnds vS KL WA 51 = vec8 2047150241 4045142696 91585771 1098003085 1391578359 1851537676 3178315832 4274981830 := rstep vS 50 _ _ _ _ _ _ _ _ _ _ 659060556 _ ra50 (by kernel_rfl) wa50 (by kernel_rfl) (by kernel_rfl)
theorem ra52 : rnds vS KL WA 52 = vec8 2288941602 2047150241 4045142696 91585771 1227037726 1391578359 1851537676 3178315832 := rstep vS 51 _ _ _ _ _ _ _ _ _ _ 883997877 _ ra51 (by kernel_rfl) wa51 (by kernel_rfl) (by kernel_rfl)
theorem ra53 : rnds vS KL WA 53 = vec8 270520975 2288941602 2047150241 4045142696 1386118400 1227037726 1391578359 1851537676 := rstep vS 52 _ _ _ _ _ _ _ _ _ _ 958139571 _ ra52 (by kernel_rfl) wa52 (by kernel_rfl) (by kernel_rfl)
theorem ra54 : rnds vS KL WA 54 = vec8 4117770203 270520975 2288941602 2047150241 2672265155 1386118400 1227037726 1391578359 := rstep vS 53 _ _ _ _ _ _ _ _ _ _ 1322822218 _ ra53 (by kernel_rfl) wa53 (by kernel_rfl) (by kernel_rfl)
theorem ra55 : rnds vS KL WA 55 = vec8 1053056219 4117770203 270520975 2288941602 3842906959 2672265155 1386118400 1227037726 := rstep vS 54 _ _ _ _ _ _ _ _ _ _ 1537002063 _ ra54 (by kernel_rfl) wa54 (by kernel_rfl) (by kernel_rfl)
theorem ra56 : rnds vS KL WA 56 = vec8 952932627 1053056219 4117770203 270520975 1422599787 3842906959 2672265155 1386118400 := rstep vS 55 _ _ _ _ _ _ _ _ _ _ 1747873779 _ ra55 (by kernel_rfl) wa55 (by kernel_rfl) (by kernel_rfl)
theorem ra57 : rnds vS KL WA 57 = vec8 4241590395 952932627 1053056219 4117770203 2606665836 1422599787 3842906959 2672265155 := rstep vS 56 _ _ _ _ _ _ _ _ _ _ 1955562222 _ ra56 (by kernel_rfl) wa56 (by kernel_rfl) (by kernel_rfl)
theorem ra58 : rnds vS KL WA 58 = vec8 3227702383 4241590395 952932627 1053056219 2118385806 2606665836 1422599787 3842906959 := rstep vS 57 _ _ _ _ _ _ _ _ _ _ 2024104815 _ ra57 (by kernel_rfl) wa57 (by kernel_rfl) (by kernel_rfl)
theorem ra59 : rnds vS KL WA 59 = vec8 4290184306 3227702383 4241590395 952932627 1837350854 2118385806 2606665836 1422599787 := rstep vS 58 _ _ _ _ _ _ _ _ _ _ 2227730452 _ ra58 (by kernel_rfl) wa58 (by kernel_rfl) (by kernel_rfl)
theorem ra60 : rnds vS KL WA 60 = vec8 3064893439 4290184306 3227702383 4241590395 2988158269 1837350854 2118385806 2606665836 := rstep vS 59 _ _ _ _ _ _ _ _ _ _ 2361852424 _ ra59 (by kernel_rfl) wa59 (by kernel_rfl) (by kernel_rfl)
theorem ra61 : rnds vS KL WA 61 = vec8 3093179625 3064893439 4290184306 3227702383 2518632596 2988158269 1837350854 2118385806 := rstep vS 60 _ _ _ _ _ _ _ _ _ _ 2428436474 _ ra60 (by kernel_rfl) wa60 (by kernel_rfl) (by kernel_rfl)
theorem ra62 : rnds vS KL WA 62 = vec8 80891244 3093179625 3064893439 4290184306 2492278198 2518632596 2988158269 1837350854 := rstep vS 61 _ _ _ _ _ _ _ _ _ _ 2756734187 _ ra61 (by kernel_rfl) wa61 (by kernel_rfl) (by kernel_rfl)
theorem ra63 : rnds vS KL WA 63 = vec8 3550093669 80891244 3093179625 3064893439 4212265488 2492278198 2518632596 2988158269 := rstep vS 62 _ _ _ _ _ _ _ _ _ _ 3204031479 _ ra62 (by kernel_rfl) wa62 (by kernel_rfl) (by kernel_rfl)
theorem ra64 : rnds vS KL WA 64 = vec8 1349398616 3550093669 80891244 3093179625 1593118500 4212265488 2492278198 2518632596 := rstep vS 63 _ _ _ _ _ _ _ _ _ _ 3329325298 _ ra63 (by kernel_rfl) wa63 (by kernel_rfl) (by kernel_rfl)

theorem rnds_congr (K W : Nat → Int) {v v' : Nat → Int} (h : ∀ j, j < 8 → v j = v' j) : ∀ t j, j < 8 → rnds v K W t j = rnds v' K W t j := by
  intro t
  induction t with
  | zero => exact h
  | succ t ih =>
    intro j hj
    show rnd (rnds v K W t) _ _ j = rnd (rnds v' K W t) _ _ j
    have h0 := ih 0 (by decide)
    have h1 := ih 1 (by decide)
    have h2 := ih 2 (by decide)
    have h3 := ih 3 (by decide)
    have h4 := ih 4 (by decide)
    have h5 := ih 5 (by decide)
    have h6 := ih 6 (by decide)
    have h7 := ih 7 (by decide)
    match j, hj with
    | 0, _ => show IntKind.u32.wrap _ = IntKind.u32.wrap _; rw [h0, h1, h2, h4, h5, h6, h7]
    | 1, _ => exact h0
    | 2, _ => exact h1
    | 3, _ => exact h2
    | 4, _ => show IntKind.u32.wrap _ = IntKind.u32.wrap _; rw [h3, h4, h5, h6, h7]
    | 5, _ => exact h4
    | 6, _ => exact h5
    | 7, _ => exact h6

theorem sha_abc (j : Nat) (hj : j < 8) : shaS KL SL [97, 98, 99] j = IntKind.u32.wrap (SL j + vec8 1349398616 3550093669 80891244 3093179625 1593118500 4212265488 2492278198 2518632596 j) := by
  rw [shaS_chain]
  show IntKind.u32.wrap (SL j + rnds SL KL WA 64 j) = _
  have hs : ∀ j, j < 8 → SL j = vS j := by
    intro j hj
    match j, hj with
    | 0, _ => rfl
    | 1, _ => rfl
    | 2, _ => rfl
    | 3, _ => rfl
    | 4, _ => rfl
    | 5, _ => rfl
    | 6, _ => rfl
    | 7, _ => rfl
  rw [rnds_congr KL WA hs 64 j hj, ra64]
theorem abc0 : outB (shaS KL SL [97, 98, 99]) 0 = 186 := by unfold outB; rw [sha_abc _ (by decide)]; kernel_rfl
theorem abc1 : outB (shaS KL SL [97, 98, 99]) 1 = 120 := by unfold outB; rw [sha_abc _ (by decide)]; kernel_rfl
theorem abc31 : outB (shaS KL SL [97, 98, 99]) 31 = 173 := by unfold outB; rw [sha_abc _ (by decide)]; kernel_rfl
end Go.Proofs.YthfikoghbnicoabDoor
