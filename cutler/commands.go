package cutler

// command is a command with the kinds of its words, named as the document names them.
type command struct {
	name, pattern string
	run           func(*Cutler, arguments) reply
}

// find returns the command of a name.
func find(name string) (command, bool) {
	for _, table := range [][]command{studies(), machines(), controls(), runners()} {
		for _, known := range table {
			if known.name == name {
				return known, true
			}
		}
	}
	return command{}, false
}

// studies returns the commands that look at nothing but their words.
func studies() []command {
	return []command{
		{"rhythm", "WORD", (*Cutler).rhythm},
		{"even", "P Q", (*Cutler).even},
		{"gaps", "STEP COUNT LENGTH", (*Cutler).gaps},
		{"scroll", "N ...", (*Cutler).scroll},
		{"faces", "K N ...", (*Cutler).faces},
		{"terms", "OVER UNDER", (*Cutler).terms},
		{"near", "OVER UNDER MOST", (*Cutler).near},
		{"root", "D", (*Cutler).root},
		{"train", "OVER UNDER PAIRS N ...", (*Cutler).train},
		{"beats", "D N", (*Cutler).beats},
		{"markov", "N", (*Cutler).markov},
	}
}

// machines returns the commands of the gear, the river, the wheels that wear out, and the
// blades that are paired.
func machines() []command {
	return []command{
		{"wheels", "N", (*Cutler).setWheels},
		{"belt", "A B OVER UNDER", (*Cutler).addBelt},
		{"speeds", "", (*Cutler).speeds},
		{"ratio", "A B", (*Cutler).ratio},
		{"group", "", (*Cutler).group},
		{"place", "FLOW GAIN ...", (*Cutler).addPlace},
		{"river", "", (*Cutler).river},
		{"alone", "PLACE ...", (*Cutler).alone},
		{"aspires", "PLACE ...", (*Cutler).aspires},
		{"calls", "N ...", (*Cutler).calls},
		{"lives", "NUM ...", (*Cutler).setLives},
		{"renew", "N", (*Cutler).renew},
		{"mean", "", (*Cutler).mean},
		{"spares", "N K", (*Cutler).spares},
		{"replace", "NUM NUM", (*Cutler).replace},
		{"cost", "N ...", (*Cutler).addCost},
		{"pairs", "", (*Cutler).pairs},
		{"lacks", "LIMIT", (*Cutler).lacks},
		{"pairing", "LIMIT RANK", (*Cutler).pairing},
		{"clear", "WHAT", (*Cutler).clear},
	}
}

// controls returns the commands of the oven, the shaft and the dispute.
func controls() []command {
	return []command{
		{"phase", "", (*Cutler).addPhase},
		{"row", "PHASE WORD", (*Cutler).addRow},
		{"move", "FROM TO X Y", (*Cutler).addMove},
		{"jolt", "X Y", (*Cutler).addJolt},
		{"kernel", "", (*Cutler).kernel},
		{"choose", "PHASE X Y", (*Cutler).choose},
		{"play", "PHASE X Y JOLT ...", (*Cutler).play},
		{"power", "N", (*Cutler).setPower},
		{"job", "FROM TO LENGTH POWER", (*Cutler).addJob},
		{"order", "BEFORE AFTER", (*Cutler).addOrder},
		{"shaft", "", (*Cutler).schedule},
		{"overfull", "", (*Cutler).overfull},
		{"claims", "N", (*Cutler).setClaims},
		{"attack", "A B", (*Cutler).addAttack},
		{"granted", "", (*Cutler).granted},
		{"preferred", "", (*Cutler).preferred},
		{"stable", "", (*Cutler).stable},
		{"complete", "", (*Cutler).complete},
		{"odd", "", (*Cutler).odd},
	}
}

// runners returns the commands of the ring, the computation and the store.
func runners() []command {
	return []command{
		{"ring", "RULE N ...", (*Cutler).setRing},
		{"start", "I", (*Cutler).start},
		{"pass", "I", (*Cutler).pass},
		{"leaders", "", (*Cutler).leaders},
		{"work", "N", (*Cutler).setWork},
		{"task", "FROM TO", (*Cutler).task},
		{"idle", "I", (*Cutler).idle},
		{"deliver", "K", (*Cutler).deliver},
		{"ended", "", (*Cutler).ended},
		{"put", "KEY STRING", (*Cutler).put},
		{"delete", "KEY", (*Cutler).remove},
		{"get", "VIEW KEY", (*Cutler).get},
		{"scan", "VIEW", (*Cutler).scan},
		{"view", "", (*Cutler).view},
		{"drop", "VIEW", (*Cutler).drop},
		{"sync", "", (*Cutler).sync},
		{"flush", "", (*Cutler).flush},
		{"compact", "", (*Cutler).compact},
		{"arm", "N", (*Cutler).arm},
		{"restart", "KEEP", (*Cutler).restart},
		{"open", "", (*Cutler).open},
	}
}
